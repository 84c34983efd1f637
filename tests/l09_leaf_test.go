package tests

import (
	"crypto/sha256"
	"math"
	"slices"
	"strings"
	"testing"

	"loop.example/g00284/impl"
)

// leavesOf takes names and values by turns.
func leavesOf(words ...string) []impl.Leaf {
	var list []impl.Leaf
	for pair := range slices.Chunk(words, 2) {
		list = append(list, impl.Leaf{Name: pair[0], Value: pair[1]})
	}
	return list
}

// leavesFrom has the names n10, n11 and so on; n10a is between two of them.
func leavesFrom(count int) []impl.Leaf {
	list := make([]impl.Leaf, count)
	for i := range list {
		list[i] = impl.Leaf{Name: "n" + impl.Decimal(10+i), Value: "v" + impl.Decimal(i)}
	}
	return list
}

// edgeLeaves have the least and the greatest bytes and sizes, and names that begin others.
func edgeLeaves() []impl.Leaf {
	return leavesOf(".", "!", "..", "~", "...........z", "~~~~~~~~~~~~", "0", "-", "9", "\"", "@", "@", "@@", "A", "a", "!", "a.", "#", "a0", "1", "a@", "2", "aa", "3", "aaaaaaaaaaaa", "!!!!!!!!!!!!", "ab", "Z", "joe@x.org", "k1", "z", "~", "zz", "}", "zzzzzzzzzzzz", "!~!~!~!~!~!~")
}

func rightLists() [][]impl.Leaf {
	lists := [][]impl.Leaf{nil, {}, leavesOf("a", "!"), leavesOf("zzzzzzzzzzzz", "~~~~~~~~~~~~"), leavesOf("ann", "k1", "bob", "k2"), leavesOf("a", "same", "aa", "same", "b", "same"), edgeLeaves()}
	for count := 1; count <= 24; count++ {
		lists = append(lists, leavesFrom(count))
	}
	return lists
}

func wrongLeafNames() []string {
	return []string{"", "A", "a b", " ", "a-b", "-", "/", ":", "`", "{", "\x00", "\xff", "ä", "a\n", "n10 ", "abcdefghijklm", turning(256), strings.Repeat("a", 256+5), strings.Repeat("a", 20001)}
}

func wrongLeafValues() []string {
	return []string{"", " ", "a b", "\x1f", "\x7f", "\x80", "\x00", "\xff", "ä", "v\n", "abcdefghijklm", strings.Repeat("v", 256+5), strings.Repeat("v", 20001)}
}

// changed is the list with another leaf at a place.
func changed(list []impl.Leaf, at int, leaf impl.Leaf) []impl.Leaf {
	list = slices.Clone(list)
	list[at] = leaf
	return list
}

// swapped is the list with two leaves that changed places.
func swapped(list []impl.Leaf, a, b int) []impl.Leaf {
	list = slices.Clone(list)
	list[a], list[b] = list[b], list[a]
	return list
}

// wrongLists are wrong for one reason alone, each.
func wrongLists() [][]impl.Leaf {
	lists := [][]impl.Leaf{leavesFrom(25), leavesFrom(26), leavesFrom(49), leavesOf("a", "1", "a", "1"), leavesOf("a", "1", "a", "2"), leavesOf("b", "1", "a", "2"), leavesOf("aa", "1", "a", "2"), leavesOf("a", "1", "b", "2", "a", "3"), leavesOf("a", "1", "@", "2"), leavesOf("@", "1", "9", "2"), leavesOf("0", "1", ".", "2")}
	few := leavesFrom(5)
	for at := range 4 {
		lists = append(lists, swapped(few, at, at+1), changed(few, at, few[at+1]), changed(few, at+1, impl.Leaf{Name: few[at].Name, Value: "other"}))
	}
	lists = append(lists, swapped(few, 0, 4), changed(few, 4, few[0]), swapped(leavesFrom(24), 22, 23), swapped(leavesFrom(24), 0, 1))
	for _, name := range wrongLeafNames() {
		lists = append(lists, leavesOf(name, "v"), sortedByName(append(leavesFrom(3), impl.Leaf{Name: name, Value: "v"})))
	}
	for _, value := range wrongLeafValues() {
		lists = append(lists, leavesOf("n", value))
		for _, at := range []int{0, 2, 4} {
			lists = append(lists, changed(few, at, impl.Leaf{Name: few[at].Name, Value: value}))
		}
		lists = append(lists, changed(leavesFrom(24), 23, impl.Leaf{Name: "n33", Value: value}))
	}
	return lists
}

func sortedByName(list []impl.Leaf) []impl.Leaf {
	return slices.SortedFunc(slices.Values(list), func(a, b impl.Leaf) int { return strings.Compare(a.Name, b.Name) })
}

// wordByWords: 1 to 12 bytes, all of this kind.
func wordByWords(s string, in func(byte) bool) bool {
	return len(s) >= 1 && len(s) <= 12 && !slices.ContainsFunc([]byte(s), func(b byte) bool { return !in(b) })
}

func leavesOkByWords(list []impl.Leaf) bool {
	for i, l := range list {
		if !wordByWords(l.Name, inNameByWords) || !wordByWords(l.Value, inValueByWords) || i > 0 && list[i-1].Name >= l.Name {
			return false
		}
	}
	return len(list) <= 24
}

// placeOfLeaf is below 0 without the name.
func placeOfLeaf(list []impl.Leaf, name string) int {
	return slices.IndexFunc(list, func(l impl.Leaf) bool { return l.Name == name })
}

func putByWords(list []impl.Leaf, name, value string) ([]impl.Leaf, bool) {
	next := slices.Clone(list)
	if at := placeOfLeaf(list, name); at >= 0 {
		next[at].Value = value
	} else {
		next = sortedByName(append(next, impl.Leaf{Name: name, Value: value}))
	}
	if !leavesOkByWords(list) || !leavesOkByWords(next) {
		return list, false
	}
	return next, true
}

func dropByWords(list []impl.Leaf, name string) ([]impl.Leaf, bool) {
	at := placeOfLeaf(list, name)
	if at < 0 || !leavesOkByWords(list) {
		return list, false
	}
	return slices.Delete(slices.Clone(list), at, at+1), true
}

func bucketByWords(list []impl.Leaf, index int) []impl.Leaf {
	var bucket []impl.Leaf
	for _, l := range list {
		if whole := sha256.Sum256([]byte(l.Name)); int(whole[0]) == index {
			bucket = append(bucket, l)
		}
	}
	return bucket
}

// leavesTextByWords is of any leaves, right or not, so that wrong texts can be made by it.
func leavesTextByWords(list []impl.Leaf) string {
	text := lengthByWords(len(list))
	for _, l := range list {
		text += lengthByWords(len(l.Name)) + l.Name + lengthByWords(len(l.Value)) + l.Value
	}
	return text
}

// readLeavesByWords makes do with one byte a number: those of right leaves are all below 128.
func readLeavesByWords(text string) ([]impl.Leaf, bool) {
	var words []string
	rest := text
	for rest != "" {
		if len(words) == 0 {
			words, rest = append(words, rest[:1]), rest[1:]
			continue
		}
		size := int(rest[0])
		if size >= len(rest) {
			return nil, false
		}
		words, rest = append(words, rest[1:1+size]), rest[1+size:]
	}
	if len(words)%2 == 0 || int(words[0][0]) != len(words)/2 {
		return nil, false
	}
	list := leavesOf(words[1:]...)
	if !leavesOkByWords(list) {
		return nil, false
	}
	return list, true
}

func sameLeaves(t *testing.T, what string, got []impl.Leaf, ok bool, want []impl.Leaf, right bool) {
	t.Helper()
	if ok != right || !slices.Equal(got, want) {
		t.Errorf("%.60q: %.300q, %v; want %.300q, %v", what, got, ok, want, right)
	}
}

// putsByWords answers what it put.
func putsByWords(t *testing.T, list []impl.Leaf, name, value string) []impl.Leaf {
	t.Helper()
	was := slices.Clone(list)
	want, right := putByWords(list, name, value)
	got, ok := impl.LeafPut(list, name, value)
	sameLeaves(t, "LeafPut of "+name+" "+value, got, ok, want, right)
	sameLeaves(t, "the list behind LeafPut", list, true, was, true)
	return got
}

func dropsByWords(t *testing.T, list []impl.Leaf, name string) []impl.Leaf {
	t.Helper()
	was := slices.Clone(list)
	want, right := dropByWords(list, name)
	got, ok := impl.LeafDrop(list, name)
	sameLeaves(t, "LeafDrop of "+name, got, ok, want, right)
	sameLeaves(t, "the list behind LeafDrop", list, true, was, true)
	return got
}

func gets(t *testing.T, list []impl.Leaf, name, want string, right bool) {
	t.Helper()
	if got, ok := impl.LeafGet(list, name); got != want || ok != right {
		t.Errorf("LeafGet of %.20q: %.30q, %v; want %.30q, %v", name, got, ok, want, right)
	}
}

// othersAsBefore wants LeafGet to tell of every name but this one what it told before.
func othersAsBefore(t *testing.T, was, is []impl.Leaf, but string, names []string) {
	t.Helper()
	for _, name := range names {
		if name != but {
			value, there := impl.LeafGet(was, name)
			gets(t, is, name, value, there)
		}
	}
}

// leafNames are all that stand in right lists, some between them, ahead of them and behind them, and wrong ones.
func leafNames() []string {
	names := append(wrongLeafNames(), "n", "n1", "n10a", "n20.", "n33z", "n34", "m", "o", "ann", "bob", "b", "aaa")
	for _, l := range append(leavesFrom(24), edgeLeaves()...) {
		names = append(names, l.Name)
	}
	return names
}

func TestLeafConstants(t *testing.T) {
	if impl.MaxLeaves != 24 {
		t.Error("a limit is not the document's")
	}
}

func TestLeavesOkOfRightLists(t *testing.T) {
	for _, list := range rightLists() {
		if !impl.LeavesOk(list) || !leavesOkByWords(list) {
			t.Errorf("LeavesOk of %d leaves, %.200q, is false", len(list), list)
		}
	}
}

func TestLeavesOkOfWrongLists(t *testing.T) {
	for _, list := range wrongLists() {
		if impl.LeavesOk(list) || leavesOkByWords(list) {
			t.Errorf("LeavesOk of %d leaves, %.200q, is true", len(list), list)
		}
	}
}

func TestLeavesOkAtTheLimit(t *testing.T) {
	for count := range 60 {
		if got := impl.LeavesOk(leavesFrom(count)); got != (count <= impl.MaxLeaves) {
			t.Errorf("LeavesOk of %d leaves is %v", count, got)
		}
	}
}

// Wherever one leaf is wrong, the list is.
func TestLeavesOkLooksAtEveryLeaf(t *testing.T) {
	for _, count := range []int{1, 2, 3, 23, 24} {
		list := leavesFrom(count)
		for at, l := range list {
			for _, leaf := range []impl.Leaf{{Name: l.Name + "-", Value: l.Value}, {Name: l.Name, Value: ""}, {Name: l.Name, Value: l.Value + " "}, {Name: "", Value: l.Value}} {
				if impl.LeavesOk(changed(list, at, leaf)) {
					t.Errorf("LeavesOk of %d leaves with %q at %d is true", count, leaf, at)
				}
			}
			if at > 0 && (impl.LeavesOk(swapped(list, at-1, at)) || impl.LeavesOk(changed(list, at, list[at-1]))) {
				t.Errorf("LeavesOk of %d leaves that do not ascend at %d is true", count, at)
			}
		}
	}
}

func TestLeafGetOfRightLists(t *testing.T) {
	for _, list := range rightLists() {
		for _, l := range list {
			gets(t, list, l.Name, l.Value, true)
		}
		for _, name := range leafNames() {
			if placeOfLeaf(list, name) < 0 {
				gets(t, list, name, "", false)
			}
		}
	}
}

func TestLeafGetFirstMiddleLast(t *testing.T) {
	list := leavesOf("ann", "k1", "bob", "k2", "joe@x.org", "k3")
	gets(t, list, "ann", "k1", true)
	gets(t, list, "bob", "k2", true)
	gets(t, list, "joe@x.org", "k3", true)
	for _, name := range []string{"", "an", "anna", "a", "bo", "joe@x.orgs", "Ann", "k1", "zoe", "ann\x00"} {
		gets(t, list, name, "", false)
		gets(t, nil, name, "", false)
		gets(t, []impl.Leaf{}, name, "", false)
	}
}

// The document wants no right list of LeafGet: what has the name is told, and of several the first.
func TestLeafGetOfWrongLists(t *testing.T) {
	gets(t, leavesOf("b", "1", "a", "2"), "a", "2", true)
	gets(t, leavesOf("b", "1", "a", "2"), "b", "1", true)
	gets(t, leavesOf("a", "1", "a", "2"), "a", "1", true)
	gets(t, leavesOf("b", "0", "a", "2", "c", "3", "a", "1"), "a", "2", true)
	gets(t, leavesOf("", "empty", "A b", "wrong"), "", "empty", true)
	gets(t, leavesOf("", "empty", "A b", "wrong"), "A b", "wrong", true)
	gets(t, leavesOf("a", "", "b", "a b"), "a", "", true)
	gets(t, leavesOf("a", "", "b", "a b"), "b", "a b", true)
	gets(t, leavesFrom(25), "n34", "v24", true)
	gets(t, leavesFrom(25), "n35", "", false)
	for _, list := range wrongLists() {
		for _, name := range append(leafNames(), "n35") {
			if at := placeOfLeaf(list, name); at >= 0 {
				gets(t, list, name, list[at].Value, true)
			} else {
				gets(t, list, name, "", false)
			}
		}
	}
}

func TestLeafPutPlaces(t *testing.T) {
	list := leavesOf("bob", "k2", "joe", "k3")
	for _, c := range []struct {
		name string
		want []impl.Leaf
	}{
		{"ann", leavesOf("ann", "k", "bob", "k2", "joe", "k3")},
		{"bo", leavesOf("bo", "k", "bob", "k2", "joe", "k3")},
		{"bobo", leavesOf("bob", "k2", "bobo", "k", "joe", "k3")},
		{"dan", leavesOf("bob", "k2", "dan", "k", "joe", "k3")},
		{"zoe", leavesOf("bob", "k2", "joe", "k3", "zoe", "k")},
		{"@", leavesOf("@", "k", "bob", "k2", "joe", "k3")},
		{"bob", leavesOf("bob", "k", "joe", "k3")},
		{"joe", leavesOf("bob", "k2", "joe", "k")},
	} {
		got, ok := impl.LeafPut(list, c.name, "k")
		sameLeaves(t, "LeafPut of "+c.name, got, ok, c.want, true)
	}
	got, ok := impl.LeafPut(nil, "ann", "k")
	sameLeaves(t, "LeafPut into no leaf", got, ok, leavesOf("ann", "k"), true)
	got, ok = impl.LeafPut(list, "joe", "k3")
	sameLeaves(t, "LeafPut of what is there", got, ok, list, true)
}

func TestLeafPutByWords(t *testing.T) {
	values := append(wrongLeafValues(), "v", "v0", "!", "~~~~~~~~~~~~")
	for _, list := range rightLists() {
		for _, name := range leafNames() {
			for _, value := range values {
				putsByWords(t, list, name, value)
			}
		}
	}
}

func TestLeafPutAtTheLimit(t *testing.T) {
	for _, name := range []string{".", "n", "n10a", "n20a", "n34", "z"} {
		full := putsByWords(t, leavesFrom(23), name, "v")
		if len(full) != 24 {
			t.Fatalf("LeafPut into 23 leaves makes %d", len(full))
		}
		got, ok := impl.LeafPut(leavesFrom(24), name, "v")
		sameLeaves(t, "LeafPut of a new name into MaxLeaves", got, ok, leavesFrom(24), false)
		got, ok = impl.LeafPut(full, name, "other")
		sameLeaves(t, "LeafPut of one that is there into MaxLeaves", got, ok, changed(full, placeOfLeaf(full, name), impl.Leaf{Name: name, Value: "other"}), true)
	}
	for at, l := range leavesFrom(24) {
		got, ok := impl.LeafPut(leavesFrom(24), l.Name, "new")
		sameLeaves(t, "LeafPut into MaxLeaves", got, ok, changed(leavesFrom(24), at, impl.Leaf{Name: l.Name, Value: "new"}), true)
		got, ok = impl.LeafPut(leavesFrom(24), l.Name, l.Value)
		sameLeaves(t, "LeafPut of what is there into MaxLeaves", got, ok, leavesFrom(24), true)
		got, ok = impl.LeafPut(leavesFrom(24), l.Name, "")
		sameLeaves(t, "LeafPut of no value into MaxLeaves", got, ok, leavesFrom(24), false)
	}
}

func TestLeafPutOfWhatIsNotRight(t *testing.T) {
	list := leavesOf("ann", "k1", "bob", "k2")
	for _, name := range wrongLeafNames() {
		got, ok := impl.LeafPut(list, name, "k")
		sameLeaves(t, "LeafPut of a wrong name", got, ok, list, false)
		got, ok = impl.LeafPut(nil, name, "k")
		sameLeaves(t, "LeafPut of a wrong name alone", got, ok, nil, false)
	}
	for _, value := range wrongLeafValues() {
		for _, name := range []string{"ann", "bob", "new", "z"} {
			got, ok := impl.LeafPut(list, name, value)
			sameLeaves(t, "LeafPut of a wrong value", got, ok, list, false)
		}
	}
}

// Also where the leaf would mend what is wrong, the list comes back as it is: leaf by leaf, alike names and all.
func TestWrongListsComeBackAsTheyAre(t *testing.T) {
	for _, list := range wrongLists() {
		names := []string{"a", "n10", "zz", "", "A"}
		for _, l := range list {
			names = append(names, l.Name)
		}
		for _, name := range names {
			got, ok := impl.LeafPut(list, name, "v")
			sameLeaves(t, "LeafPut into a wrong list", got, ok, list, false)
			got, ok = impl.LeafDrop(list, name)
			sameLeaves(t, "LeafDrop from a wrong list", got, ok, list, false)
		}
	}
}

func TestLeafDropPlaces(t *testing.T) {
	list := leavesOf("ann", "k1", "bob", "k2", "joe", "k3")
	for _, c := range []struct {
		name string
		want []impl.Leaf
		ok   bool
	}{
		{"ann", leavesOf("bob", "k2", "joe", "k3"), true},
		{"bob", leavesOf("ann", "k1", "joe", "k3"), true},
		{"joe", leavesOf("ann", "k1", "bob", "k2"), true},
		{"", list, false}, {"a", list, false}, {"anna", list, false}, {"Bob", list, false}, {"zoe", list, false}, {"k1", list, false}, {"ann\x00", list, false},
	} {
		got, ok := impl.LeafDrop(list, c.name)
		sameLeaves(t, "LeafDrop of "+c.name, got, ok, c.want, c.ok)
	}
	got, ok := impl.LeafDrop(leavesOf("ann", "k1"), "ann")
	sameLeaves(t, "LeafDrop of the only one", got, ok, nil, true)
	got, ok = impl.LeafDrop(nil, "ann")
	sameLeaves(t, "LeafDrop of no leaf", got, ok, nil, false)
}

func TestLeafDropByWords(t *testing.T) {
	for _, list := range rightLists() {
		for _, name := range leafNames() {
			dropsByWords(t, list, name)
		}
	}
}

func TestWhatIsPutIsThereWhatIsDroppedIsNotAndAllElseStays(t *testing.T) {
	names := leafNames()
	for _, list := range rightLists() {
		for _, name := range names {
			if put, ok := impl.LeafPut(list, name, "put!"); ok {
				gets(t, put, name, "put!", true)
				othersAsBefore(t, list, put, name, names)
			}
			dropped, ok := impl.LeafDrop(list, name)
			if _, there := impl.LeafGet(list, name); there != ok {
				t.Errorf("LeafDrop of %.20q is %v, LeafGet %v", name, ok, there)
			}
			gets(t, dropped, name, "", false)
			othersAsBefore(t, list, dropped, name, names)
		}
	}
}

func TestWhatIsDroppedAndPutAgainIsThereAgain(t *testing.T) {
	for _, list := range rightLists() {
		for _, l := range list {
			dropped := dropsByWords(t, list, l.Name)
			gets(t, dropped, l.Name, "", false)
			again := putsByWords(t, dropped, l.Name, l.Value)
			sameLeaves(t, "what was dropped and put again", again, true, list, true)
			other := putsByWords(t, dropped, l.Name, "other")
			gets(t, other, l.Name, "other", true)
			if twice, ok := impl.LeafDrop(dropped, l.Name); ok || !slices.Equal(twice, dropped) {
				t.Errorf("%q is dropped twice", l.Name)
			}
		}
	}
}

// In a drawn life names are put and dropped, more than there is room for: the list is always just what it was told.
func TestLeavesThroughADrawnLife(t *testing.T) {
	state := uint64(9)
	names := append(wrongLeafNames()[:4], "z", "@", "a.", "n10a")
	for _, l := range leavesFrom(30) {
		names = append(names, l.Name)
	}
	list := []impl.Leaf{}
	told := map[string]string{}
	refused := 0
	for range 6000 {
		name, value := names[drawn(&state, len(names))], "v"+impl.Decimal(drawn(&state, 50))
		if drawn(&state, 5) < 2 {
			list = dropsByWords(t, list, name)
			delete(told, name)
		} else if next, ok := impl.LeafPut(list, name, value); ok {
			list = next
			told[name] = value
		} else {
			refused++
		}
		if len(list) != len(told) || !impl.LeavesOk(list) {
			t.Fatalf("%d leaves; %d were told", len(list), len(told))
		}
		for _, name := range names {
			value, there := told[name]
			gets(t, list, name, value, there)
		}
	}
	if refused == 0 {
		t.Error("the life was never at a limit")
	}
}

// namesOfIndex are right and ascending.
func namesOfIndex(index, count int) []string {
	var names []string
	for n := 100000; len(names) < count; n++ {
		name := "x" + impl.Decimal(n)
		if whole := sha256.Sum256([]byte(name)); int(whole[0]) == index {
			names = append(names, name)
		}
	}
	return names
}

// crowdedLists have some leaves at a few indexes, the least and the greatest one among them, or all at one.
func crowdedLists() [][]impl.Leaf {
	var few []impl.Leaf
	for _, index := range []int{0, 1, 127, 128, 254, 255} {
		for _, name := range namesOfIndex(index, 4) {
			few = append(few, impl.Leaf{Name: name, Value: "at" + impl.Decimal(index)})
		}
	}
	var all []impl.Leaf
	for _, name := range namesOfIndex(77, 24) {
		all = append(all, impl.Leaf{Name: name, Value: "v"})
	}
	return [][]impl.Leaf{sortedByName(few), all, all[:1]}
}

func TestBucketOfIndexes(t *testing.T) {
	lists := crowdedLists()
	for _, index := range []int{0, 1, 127, 128, 254, 255} {
		got := impl.BucketOf(lists[0], index)
		if len(got) != 4 || !impl.LeavesOk(got) {
			t.Fatalf("BucketOf %d has %d leaves", index, len(got))
		}
		for i, name := range namesOfIndex(index, 4) {
			if want := (impl.Leaf{Name: name, Value: "at" + impl.Decimal(index)}); got[i] != want {
				t.Errorf("BucketOf %d has %q at %d", index, got[i], i)
			}
		}
	}
	sameLeaves(t, "BucketOf the index of all", impl.BucketOf(lists[1], 77), true, lists[1], true)
	sameLeaves(t, "BucketOf the index of one", impl.BucketOf(lists[2], 77), true, lists[2], true)
	sameLeaves(t, "BucketOf an index of none", impl.BucketOf(lists[1], 76), true, nil, true)
	sameLeaves(t, "BucketOf no leaf", impl.BucketOf(nil, 77), true, nil, true)
}

func TestBucketOfIndexesThatAreNone(t *testing.T) {
	for _, list := range append(append(rightLists(), crowdedLists()...), wrongLists()...) {
		for _, index := range []int{-1, -255, -256, -179, 256, 257, 333, 511, 65536, 1 << 32, 1<<32 + 77, math.MaxInt, math.MinInt} {
			if got := impl.BucketOf(list, index); len(got) > 0 {
				t.Errorf("BucketOf %d has %d leaves", index, len(got))
			}
		}
	}
}

func TestAllBucketsAreAllLeaves(t *testing.T) {
	for _, list := range append(rightLists(), crowdedLists()...) {
		var all []impl.Leaf
		for index := range 256 {
			bucket := impl.BucketOf(list, index)
			sameLeaves(t, "BucketOf", bucket, impl.LeavesOk(bucket), bucketByWords(list, index), true)
			all = append(all, bucket...)
		}
		sameLeaves(t, "all buckets", sortedByName(all), true, list, true)
	}
}

// The document wants no right list of BucketOf: all whose index it is are told, in the list's order.
func TestBucketOfWrongLists(t *testing.T) {
	names := namesOfIndex(200, 3)
	list := leavesOf(names[2], "1", "b", "2", names[0], "3", names[2], "4", names[1], "a b", names[0], "")
	sameLeaves(t, "BucketOf a wrong list", impl.BucketOf(list, 200), true, leavesOf(names[2], "1", names[0], "3", names[2], "4", names[1], "a b", names[0], ""), true)
	for _, list := range wrongLists() {
		for index := range 256 {
			sameLeaves(t, "BucketOf a wrong list", impl.BucketOf(list, index), true, bucketByWords(list, index), true)
		}
	}
}

func TestLeavesTextBytes(t *testing.T) {
	for _, c := range []struct {
		list []impl.Leaf
		want string
	}{
		{nil, "\x00"},
		{[]impl.Leaf{}, "\x00"},
		{leavesOf("a", "!"), "\x01\x01a\x01!"},
		{leavesOf("ann", "k1", "bob", "k2"), "\x02\x03ann\x02k1\x03bob\x02k2"},
		{leavesOf("abcdefghijkl", "ABCDEFGHIJKL"), "\x01\x0cabcdefghijkl\x0cABCDEFGHIJKL"},
	} {
		if got, ok := impl.LeavesText(c.list); got != c.want || !ok {
			t.Errorf("LeavesText of %q: %q, %v; want %q", c.list, got, ok, c.want)
		}
	}
}

func TestLeavesComeBackFromTheirText(t *testing.T) {
	for _, list := range append(rightLists(), crowdedLists()...) {
		text, ok := impl.LeavesText(list)
		if !ok || text != leavesTextByWords(list) {
			t.Errorf("LeavesText of %d leaves: %.60q, %v", len(list), text, ok)
		}
		got, right := impl.ReadLeaves(text)
		sameLeaves(t, "ReadLeaves", got, right, list, true)
	}
}

func TestLeavesTextOfWrongLists(t *testing.T) {
	for _, list := range wrongLists() {
		if got, ok := impl.LeavesText(list); got != "" || ok {
			t.Errorf("LeavesText of %.200q: %.60q, %v", list, got, ok)
		}
	}
}

func refusesLeaves(t *testing.T, what string, text string) {
	t.Helper()
	if got, ok := impl.ReadLeaves(text); ok || len(got) > 0 {
		t.Errorf("%s: ReadLeaves of %.60q: %d leaves, %v", what, text, len(got), ok)
	}
}

// A right text, but of leaves that are not: too many, not ascending, a wrong name, a wrong value.
func TestReadLeavesOfWrongLists(t *testing.T) {
	for _, list := range wrongLists() {
		refusesLeaves(t, "a wrong list", leavesTextByWords(list))
	}
	refusesLeaves(t, "names that are not ascending", "\x02\x03bob\x02k2\x03ann\x02k1")
	refusesLeaves(t, "alike names", "\x02\x03ann\x02k1\x03ann\x02k2")
	refusesLeaves(t, "a wrong name", "\x01\x03Ann\x02k1")
	refusesLeaves(t, "an empty name", "\x01\x00\x02k1")
	refusesLeaves(t, "a wrong value", "\x01\x03ann\x02k ")
	refusesLeaves(t, "an empty value", "\x01\x03ann\x00")
}

func TestReadLeavesOfCutsAndMore(t *testing.T) {
	for _, list := range rightLists() {
		text := leavesTextByWords(list)
		for at := range len(text) {
			refusesLeaves(t, "a text that is cut", text[:at])
		}
		for _, more := range []string{"\x00", "\x01", " ", "\x01a\x01!", "\x03zzz\x01v", text, "\xff", turning(300)} {
			refusesLeaves(t, "a text with bytes behind", text+more)
			refusesLeaves(t, "a text with bytes ahead", more+text)
		}
	}
}

func TestReadLeavesOfWrongCounts(t *testing.T) {
	for _, list := range rightLists() {
		body := leavesTextByWords(list)[1:]
		for _, count := range []int{0, 1, 2, 3, len(list) - 1, len(list) + 1, 23, 24, 25, 127, 128, 256 + len(list), 20000, 1000000000, 1000000001} {
			if count >= 0 && count != len(list) {
				refusesLeaves(t, "a wrong count", lengthByWords(count)+body)
			}
		}
		refusesLeaves(t, "no count", body)
	}
}

func TestReadLeavesOfLongerForms(t *testing.T) {
	for _, text := range []string{"\x80\x00", "\x80\x80\x00", "\x81\x00\x01a\x01!", "\x81\x80\x00\x01a\x01!", "\x01\x81\x00a\x01!", "\x01\x01a\x81\x00!", "\x01\x81\x80\x80\x80\x00a\x01!", "\x02\x01a\x01!\x81\x00b\x01!", "\x02\x01a\x01!\x01b\x81\x80\x00!", "\x80", "\x81", "\x01\x81", "\x01\x01a\x81", "\xff\xff\xff\xff\xff\xff\xff\xff\xff\xff"} {
		refusesLeaves(t, "a longer form of a number", text)
	}
}

// readsByWords also wants of what is read that it is written so again.
func readsByWords(t *testing.T, text string) {
	t.Helper()
	want, right := readLeavesByWords(text)
	got, ok := impl.ReadLeaves(text)
	sameLeaves(t, "ReadLeaves of "+impl.Decimal(len(text))+" bytes", got, ok, want, right)
	if again, _ := impl.LeavesText(got); ok && again != text {
		t.Errorf("ReadLeaves of %.60q is written as %.60q", text, again)
	}
}

func TestReadLeavesOfAllShortTexts(t *testing.T) {
	letters := "\x00\x01\x02\x80a!"
	texts := []string{""}
	for range 7 {
		var longer []string
		for _, text := range texts {
			readsByWords(t, text)
			for i := range len(letters) {
				longer = append(longer, text+letters[i:i+1])
			}
		}
		texts = longer
	}
}

func TestReadLeavesWithOneByteTurned(t *testing.T) {
	for _, list := range [][]impl.Leaf{nil, leavesOf("a", "!"), leavesOf("ann", "k1", "bob", "k2"), leavesFrom(5), edgeLeaves(), leavesFrom(24)} {
		text := leavesTextByWords(list)
		for at := range len(text) {
			for by := 1; by < 256; by++ {
				readsByWords(t, turned(text, at, byte(by)))
			}
		}
	}
}

func textsOfLeaves(lists ...[]impl.Leaf) []string {
	var texts []string
	for _, l := range slices.Concat(lists...) {
		texts = append(texts, l.Name, l.Value)
	}
	return texts
}

// ownLeaves are right ones whose texts lie in memory of their own.
func ownLeaves() []impl.Leaf {
	var list []impl.Leaf
	for _, l := range leavesFrom(6) {
		list = append(list, impl.Leaf{Name: strings.Clone(l.Name), Value: strings.Clone(l.Value)})
	}
	return list
}

func TestLeavesAnswerNewMemory(t *testing.T) {
	list, name, value := ownLeaves(), strings.Clone("n12a"), strings.Clone("value")
	wrong := append(ownLeaves(), ownLeaves()...)
	text, _ := impl.LeavesText(list)
	given := append(textsOfLeaves(list, wrong), name, value, text)
	was, wasWrong := slices.Clone(list), slices.Clone(wrong)
	var answers [][]impl.Leaf
	for _, from := range [][]impl.Leaf{list, wrong} {
		for _, to := range []string{name, from[2].Name, ""} {
			put, _ := impl.LeafPut(from, to, value)
			kept, _ := impl.LeafPut(from, to, "")
			dropped, _ := impl.LeafDrop(from, to)
			answers = append(answers, put, kept, dropped)
		}
		answers = append(answers, impl.BucketOf(from, impl.IndexOf("n12")))
	}
	read, _ := impl.ReadLeaves(text)
	answers = append(answers, read)
	got, _ := impl.LeafGet(list, "n12")
	noneShares(t, "LeafGet and what was handed in", []string{got}, given)
	noneShares(t, "LeavesText and its list", []string{text}, textsOfLeaves(list))
	for i, answer := range answers {
		if len(answer) == 0 {
			t.Fatalf("answer %d is empty", i)
		}
		noneShares(t, "an answer and what was handed in", textsOfLeaves(answer), given)
		clear(answer)
	}
	if !slices.Equal(list, was) || !slices.Equal(wrong, wasWrong) {
		t.Error("an argument goes with what was made of it")
	}
}

// A list that is handed in may be a piece of a longer one, whose spare room is somebody else's.
func TestLeavesWriteIntoNoSpareRoom(t *testing.T) {
	for _, room := range [][]impl.Leaf{leavesFrom(12), swapped(leavesFrom(12), 0, 1)} {
		was := slices.Clone(room)
		for size := range len(room) {
			list := room[:size]
			for _, name := range []string{".", "n10", "n12", "n12a", "z", "n21", "A"} {
				put, _ := impl.LeafPut(list, name, "other")
				dropped, _ := impl.LeafDrop(list, name)
				bucket := impl.BucketOf(list, impl.IndexOf(name))
				for _, answer := range [][]impl.Leaf{put, dropped, bucket} {
					clear(append(answer, leavesFrom(3)...))
					clear(answer[:cap(answer)])
				}
				impl.LeafGet(list, name)
			}
			impl.LeavesText(list)
			impl.LeavesOk(list)
			if !slices.Equal(room, was) {
				t.Fatalf("with %d leaves handed in, they or the room behind them were written into", size)
			}
		}
	}
}

// Every call answers from what it is given alone: again the same, though a map is gone through, and what was changed of an answer is not in the next one.
func TestLeavesKeepNothing(t *testing.T) {
	list := leavesFrom(20)
	text, _ := impl.LeavesText(list)
	for range 50 {
		put := putsByWords(t, list, "n12a", "v")
		dropped := dropsByWords(t, list, "n12")
		bucket := impl.BucketOf(list, impl.IndexOf("n12"))
		sameLeaves(t, "BucketOf again", bucket, true, bucketByWords(list, impl.IndexOf("n12")), true)
		read, ok := impl.ReadLeaves(text)
		sameLeaves(t, "ReadLeaves again", read, ok, list, true)
		for _, answer := range [][]impl.Leaf{put, dropped, bucket, read} {
			clear(answer)
		}
		impl.LeafPut(leavesFrom(25), "z", "v")
		impl.LeafDrop(list, "z")
		impl.ReadLeaves(text + "\x00")
	}
}

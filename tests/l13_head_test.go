package tests

import (
	"math"
	"slices"
	"strings"
	"testing"

	"loop.example/g00284/impl"
)

func rightHouses() []int {
	return []int{0, 1, 2}
}

// wrongHouses are none, though the lowest byte of some of them is one.
func wrongHouses() []int {
	return []int{-1, 3, -2, 4, 255, 256, 256 + 1, -256 + 2, 1<<32 + 1, math.MaxInt, math.MinInt}
}

func rightEpochs() []int {
	return []int{1, 2, 3, 4}
}

// wrongEpochs are none, though the lowest byte of some of them is one.
func wrongEpochs() []int {
	return []int{0, 5, -1, 6, 255, 256, 256 + 1, -256 + 2, 1<<32 + 1, math.MaxInt, math.MinInt}
}

func wrongHashWidths() []int {
	return []int{0, 1, 15, 17, 18, 31, 32, 33}
}

// rootAt is another root for each number.
func rootAt(i int) string {
	return turning(400)[16*i : 16*i+16]
}

func headOkByWords(h impl.Head) bool {
	prev := 16
	if h.Epoch == 1 {
		prev = 0
	}
	return slices.Contains(rightHouses(), h.House) && slices.Contains(rightEpochs(), h.Epoch) && len(h.Root) == 16 && len(h.Prev) == prev
}

func headTextByWords(h impl.Head) string {
	return string([]byte{byte(h.House), byte(h.Epoch)}) + h.Root + h.Prev
}

func headHashByWords(h impl.Head) string {
	if !headOkByWords(h) {
		return ""
	}
	return hashByWords(16, 4, headTextByWords(h))
}

func chainOkByWords(list []impl.Head, house int) bool {
	for i, h := range list {
		if !headOkByWords(h) || h.House != house || h.Epoch != i+1 {
			return false
		}
		if i > 0 && h.Prev != headHashByWords(list[i-1]) {
			return false
		}
	}
	return true
}

func nextByWords(list []impl.Head, house int, root string) (impl.Head, bool) {
	h := impl.Head{House: house, Epoch: len(list) + 1, Root: root}
	if len(list) > 0 {
		h.Prev = headHashByWords(list[len(list)-1])
	}
	if !chainOkByWords(list, house) || !headOkByWords(h) {
		return impl.Head{}, false
	}
	return h, true
}

// readHeadByWords looks for the head among all that could have this text.
func readHeadByWords(text string) (impl.Head, bool) {
	for _, size := range []int{18, 34} {
		if len(text) != size {
			continue
		}
		h := impl.Head{House: int(text[0]), Epoch: int(text[1]), Root: text[2:18], Prev: text[18:]}
		return h, headOkByWords(h)
	}
	return impl.Head{}, false
}

// chainFrom is made by the document's words alone, with other roots for each number to begin with.
func chainFrom(house, count, begin int) []impl.Head {
	list := []impl.Head{}
	for i := range count {
		h, _ := nextByWords(list, house, rootAt(begin+i))
		list = append(list, h)
	}
	return list
}

// withHead is the list with another head at a place.
func withHead(list []impl.Head, at int, h impl.Head) []impl.Head {
	other := slices.Clone(list)
	other[at] = h
	return other
}

// rightHeads are of every house and epoch, with roots of any bytes.
func rightHeads() []impl.Head {
	var list []impl.Head
	for _, house := range rightHouses() {
		for _, epoch := range rightEpochs() {
			for i, root := range []string{rootAt(0), rootAt(7), strings.Repeat("\x00", 16), strings.Repeat("\xff", 16), "0123456789abcdef"} {
				h := impl.Head{House: house, Epoch: epoch, Root: root}
				if epoch > 1 {
					h.Prev = []string{rootAt(3), root, strings.Repeat("\xff", 16), strings.Repeat("\x00", 16), rootAt(9)}[i]
				}
				list = append(list, h)
			}
		}
	}
	return list
}

// wrongHeads have one thing that is not as it must be, each.
func wrongHeads() []impl.Head {
	list := []impl.Head{{}, {Epoch: 1}, {Root: rootAt(0)}}
	for _, right := range append(chainFrom(0, 4, 0), chainFrom(2, 4, 0)...) {
		for _, house := range wrongHouses() {
			h := right
			h.House = house
			list = append(list, h)
		}
		for _, epoch := range wrongEpochs() {
			h := right
			h.Epoch = epoch
			list = append(list, h)
		}
		for _, size := range wrongHashWidths() {
			h := right
			h.Root = turning(size)
			list = append(list, h)
		}
		for _, size := range append(wrongHashWidths(), 16) {
			h := right
			h.Prev = turning(size)
			if size != len(right.Prev) {
				list = append(list, h)
			}
		}
	}
	return list
}

// otherHeads are right ones that are not quite this head.
func otherHeads(h impl.Head) []impl.Head {
	var list []impl.Head
	add := func(other impl.Head) {
		if headOkByWords(other) && other != h {
			list = append(list, other)
		}
	}
	for n := range 5 {
		add(impl.Head{House: n, Epoch: h.Epoch, Root: h.Root, Prev: h.Prev})
		add(impl.Head{House: h.House, Epoch: n, Root: h.Root, Prev: h.Prev})
		add(impl.Head{House: h.House, Epoch: n, Root: h.Root, Prev: rootAt(5)})
		add(impl.Head{House: h.House, Epoch: n, Root: h.Root})
	}
	for at := range 16 {
		for _, by := range []byte{1, 2, 0x80, 0xff} {
			add(impl.Head{House: h.House, Epoch: h.Epoch, Root: turned(h.Root, at, by), Prev: h.Prev})
			if h.Prev != "" {
				add(impl.Head{House: h.House, Epoch: h.Epoch, Root: h.Root, Prev: turned(h.Prev, at, by)})
			}
		}
	}
	add(impl.Head{House: h.Epoch, Epoch: h.House, Root: h.Root, Prev: h.Prev})
	add(impl.Head{House: h.House, Epoch: h.Epoch, Root: h.Prev, Prev: h.Root})
	return list
}

func isHeadOk(t *testing.T, what string, h impl.Head, want bool) {
	t.Helper()
	if ok := impl.HeadOk(h); ok != want {
		t.Errorf("HeadOk of %s, %v: %v", what, h, ok)
	}
}

func isChain(t *testing.T, what string, list []impl.Head, house int, want bool) {
	t.Helper()
	if ok := impl.ChainOk(list, house); ok != want {
		t.Errorf("ChainOk of %s, house %d, %v: %v", what, house, list, ok)
	}
	if by := chainOkByWords(list, house); by != want {
		t.Errorf("the words have %v of %s, house %d", by, what, house)
	}
}

// comesNext holds what is made behind a list against the document's words.
func comesNext(t *testing.T, what string, list []impl.Head, house int, root string) impl.Head {
	t.Helper()
	h, ok := impl.NextHead(list, house, root)
	want, right := nextByWords(list, house, root)
	if h != want || ok != right {
		t.Errorf("NextHead of %s: %v, %v; want %v, %v", what, h, ok, want, right)
	}
	return h
}

func refusesNext(t *testing.T, what string, list []impl.Head, house int, root string) {
	t.Helper()
	if h, ok := impl.NextHead(list, house, root); h != (impl.Head{}) || ok {
		t.Errorf("NextHead of %s: %v, %v", what, h, ok)
	}
}

func refusesHead(t *testing.T, what string, text string) {
	t.Helper()
	if h, ok := impl.ReadHead(text); h != (impl.Head{}) || ok {
		t.Errorf("ReadHead of %s, %x: %v, %v", what, text, h, ok)
	}
}

func readsHeadByWords(t *testing.T, text string) {
	t.Helper()
	want, right := readHeadByWords(text)
	if !right {
		refusesHead(t, "what no head has as its text", text)
		return
	}
	h, ok := impl.ReadHead(text)
	if h != want || !ok {
		t.Errorf("ReadHead of %x: %v, %v", text, h, ok)
	}
	if back, ok := impl.HeadText(h); back != text || !ok {
		t.Errorf("HeadText of what ReadHead took %x to be: %x, %v", text, back, ok)
	}
}

func TestHeadConstants(t *testing.T) {
	if impl.MaxEpochs != 4 || impl.MaxHouses != 3 || impl.HashWide != 16 {
		t.Error("a constant of chapter 13 is another one")
	}
}

// P13: every house's heads are a chain, whatever number of them was made.
func TestHeadsAreChained(t *testing.T) {
	for _, house := range rightHouses() {
		for _, begin := range []int{0, 5, 11} {
			list := []impl.Head{}
			isChain(t, "no head yet", list, house, true)
			for i := range impl.MaxEpochs {
				h, ok := impl.NextHead(list, house, rootAt(begin+i))
				if !ok || h.House != house || h.Epoch != i+1 || h.Root != rootAt(begin+i) {
					t.Fatalf("NextHead behind %d heads: %v, %v", i, h, ok)
				}
				if i == 0 && h.Prev != "" || i > 0 && h.Prev != impl.HeadHash(list[i-1]) {
					t.Errorf("NextHead behind %d heads has the Prev %x", i, h.Prev)
				}
				list = append(list, h)
				isChain(t, "what NextHead made", list, house, true)
			}
			if !slices.Equal(list, chainFrom(house, 4, begin)) {
				t.Errorf("the chain of house %d: %v", house, list)
			}
			refusesNext(t, "all epochs", list, house, rootAt(0))
		}
	}
}

// P13: what is no longer as it was made is no chain.
func TestChainsThatWereTurned(t *testing.T) {
	for _, house := range rightHouses() {
		for count := 1; count <= impl.MaxEpochs; count++ {
			list := chainFrom(house, count, 0)
			for at := range list {
				short := slices.Delete(slices.Clone(list), at, at+1)
				isChain(t, "a chain with one left out", short, house, at == count-1)
				for other := range at {
					crossed := slices.Clone(list)
					crossed[at], crossed[other] = crossed[other], crossed[at]
					isChain(t, "a chain with two the other way round", crossed, house, false)
				}
				isChain(t, "a chain with one twice", slices.Insert(slices.Clone(list), at, list[at]), house, false)
				rootsTurned(t, list, at, house)
			}
		}
	}
}

// rootsTurned wants a chain with another Root at a place to be one just where nothing stands behind it.
func rootsTurned(t *testing.T, list []impl.Head, at int, house int) {
	t.Helper()
	for place := range impl.HashWide {
		for _, by := range []byte{1, 0x10, 0x80, 0xff} {
			h := list[at]
			h.Root = turned(h.Root, place, by)
			if impl.HeadHash(h) == impl.HeadHash(list[at]) {
				continue
			}
			isChain(t, "a chain with a Root turned", withHead(list, at, h), house, at == len(list)-1)
		}
	}
}

// P13: two chains to one head are one; where they part, the heads from there on are unlike.
func TestTwoChainsToOneHeadAreOne(t *testing.T) {
	var chains [][]impl.Head
	for _, house := range rightHouses() {
		for way := range 1 << impl.MaxEpochs {
			list := []impl.Head{}
			for i := range impl.MaxEpochs {
				h, _ := impl.NextHead(list, house, rootAt(2*i+way>>i&1))
				list = append(list, h)
				chains = append(chains, slices.Clone(list))
			}
		}
	}
	for _, a := range chains {
		for _, b := range chains {
			if a[len(a)-1] == b[len(b)-1] && !slices.Equal(a, b) {
				t.Fatalf("two chains to one head: %v and %v", a, b)
			}
			if impl.HeadHash(a[len(a)-1]) == impl.HeadHash(b[len(b)-1]) && !slices.Equal(a, b) {
				t.Fatalf("two chains to one hash: %v and %v", a, b)
			}
		}
	}
}

func TestHeadOkByWords(t *testing.T) {
	widths := append(wrongHashWidths(), 16)
	for _, house := range append(rightHouses(), wrongHouses()...) {
		for _, epoch := range append(rightEpochs(), wrongEpochs()...) {
			for _, root := range widths {
				for _, prev := range widths {
					h := impl.Head{House: house, Epoch: epoch, Root: turning(root), Prev: turning(prev)}
					isHeadOk(t, "these widths", h, headOkByWords(h))
				}
			}
		}
	}
}

func TestHeadOkAtItsEdges(t *testing.T) {
	root := "0123456789abcdef"
	for house, want := range map[int]bool{-1: false, 0: true, impl.MaxHouses - 1: true, impl.MaxHouses: false} {
		isHeadOk(t, "this house", impl.Head{House: house, Epoch: 1, Root: root}, want)
		isHeadOk(t, "this house later on", impl.Head{House: house, Epoch: 2, Root: root, Prev: root}, want)
	}
	for epoch, want := range map[int]bool{0: false, 1: false, 2: true, impl.MaxEpochs: true, impl.MaxEpochs + 1: false} {
		isHeadOk(t, "this epoch", impl.Head{Epoch: epoch, Root: root, Prev: root}, want)
	}
	for epoch, want := range map[int]bool{0: false, 1: true, 2: false, impl.MaxEpochs: false, impl.MaxEpochs + 1: false} {
		isHeadOk(t, "this epoch without a Prev", impl.Head{Epoch: epoch, Root: root}, want)
	}
	for size, want := range map[int]bool{0: false, impl.HashWide - 1: false, impl.HashWide: true, impl.HashWide + 1: false} {
		isHeadOk(t, "this Root", impl.Head{Epoch: 1, Root: turning(size)}, want)
		isHeadOk(t, "this Root later on", impl.Head{Epoch: 3, Root: turning(size), Prev: root}, want)
		isHeadOk(t, "this Prev", impl.Head{Epoch: 1, Root: root, Prev: turning(size)}, size == 0)
		isHeadOk(t, "this Prev later on", impl.Head{Epoch: 2, Root: root, Prev: turning(size)}, want)
		isHeadOk(t, "this Prev at last", impl.Head{Epoch: impl.MaxEpochs, Root: root, Prev: turning(size)}, want)
	}
}

// What is in a Root or a Prev is not looked at: HeadOk counts bytes, not letters.
func TestHeadOkTakesAnyBytes(t *testing.T) {
	for _, h := range rightHeads() {
		isHeadOk(t, "any bytes", h, true)
	}
	for b := range 256 {
		all := strings.Repeat(string([]byte{byte(b)}), 16)
		isHeadOk(t, "one byte all over", impl.Head{Epoch: 1, Root: all}, true)
		isHeadOk(t, "one byte all over", impl.Head{Epoch: 2, Root: all, Prev: all}, true)
	}
	for _, h := range wrongHeads() {
		isHeadOk(t, "one thing that is wrong", h, false)
	}
	isHeadOk(t, "16 letters of two bytes each", impl.Head{Epoch: 1, Root: strings.Repeat("é", 16)}, false)
	isHeadOk(t, "8 letters of two bytes each", impl.Head{Epoch: 1, Root: strings.Repeat("é", 8)}, true)
}

func TestHeadTextsThatAreKnown(t *testing.T) {
	for _, c := range []struct {
		head impl.Head
		want string
	}{
		{impl.Head{House: 1, Epoch: 1, Root: "0123456789abcdef"}, "\x01\x010123456789abcdef"},
		{impl.Head{House: 0, Epoch: 1, Root: "fedcba9876543210"}, "\x00\x01fedcba9876543210"},
		{impl.Head{House: 2, Epoch: 4, Root: "0123456789abcdef", Prev: "ABCDEFGHIJKLMNOP"}, "\x02\x040123456789abcdefABCDEFGHIJKLMNOP"},
		{impl.Head{House: 0, Epoch: 2, Root: "\x00\x01\x02\x03\x04\x05\x06\x07\x08\x09\x0a\x0b\x0c\x0d\x0e\x0f", Prev: "\xff\xfe\xfd\xfc\xfb\xfa\xf9\xf8\xf7\xf6\xf5\xf4\xf3\xf2\xf1\xf0"}, "\x00\x02\x00\x01\x02\x03\x04\x05\x06\x07\x08\x09\x0a\x0b\x0c\x0d\x0e\x0f\xff\xfe\xfd\xfc\xfb\xfa\xf9\xf8\xf7\xf6\xf5\xf4\xf3\xf2\xf1\xf0"},
	} {
		if text, ok := impl.HeadText(c.head); text != c.want || !ok {
			t.Errorf("HeadText of %v: %x, %v", c.head, text, ok)
		}
		if h, ok := impl.ReadHead(c.want); h != c.head || !ok {
			t.Errorf("ReadHead of %x: %v, %v", c.want, h, ok)
		}
	}
}

// P13: heads come back from their texts.
func TestHeadsComeBack(t *testing.T) {
	for _, h := range append(rightHeads(), chainFrom(1, 4, 3)...) {
		text, ok := impl.HeadText(h)
		if text != headTextByWords(h) || !ok {
			t.Errorf("HeadText of %v: %x, %v", h, text, ok)
		}
		if back, ok := impl.ReadHead(text); back != h || !ok {
			t.Errorf("ReadHead of the text of %v: %v, %v", h, back, ok)
		}
	}
}

// P13: no two heads have one text.
func TestHeadTextsAreUnlike(t *testing.T) {
	for _, h := range rightHeads() {
		text, _ := impl.HeadText(h)
		others := otherHeads(h)
		if len(others) < 64 {
			t.Fatalf("too few others of %v", h)
		}
		for _, other := range others {
			if next, ok := impl.HeadText(other); next == text || !ok {
				t.Errorf("HeadText of %v and of %v: %x, %v", h, other, next, ok)
			}
		}
	}
	seen := map[string]impl.Head{}
	for _, h := range rightHeads() {
		text, _ := impl.HeadText(h)
		if other, there := seen[text]; there {
			t.Errorf("%v and %v have one text", h, other)
		}
		seen[text] = h
	}
}

func TestHeadTextRefuses(t *testing.T) {
	for _, h := range wrongHeads() {
		if text, ok := impl.HeadText(h); text != "" || ok {
			t.Errorf("HeadText of %v: %x, %v", h, text, ok)
		}
	}
}

func TestReadHeadOfOtherLengths(t *testing.T) {
	for _, h := range rightHeads() {
		text := headTextByWords(h)
		for _, more := range []string{"\x00", "\x01", "\xff", "a", rootAt(4), rootAt(4)[:15], rootAt(4) + "b", text} {
			if h.Epoch == 1 && len(more) == 16 {
				refusesHead(t, "a first epoch with a Prev", text+more)
			}
			refusesHead(t, "a text and more", text+more)
			refusesHead(t, "more and a text", more+text)
		}
		for size := range len(text) {
			refusesHead(t, "the beginning of a text", text[:size])
		}
	}
}

func TestReadHeadOfEveryLength(t *testing.T) {
	for _, begin := range []string{"\x00\x01", "\x02\x01", "\x00\x02", "\x02\x04", "\x03\x01", "\x00\x05"} {
		for size := range 80 {
			readsHeadByWords(t, begin+turning(size))
		}
	}
	refusesHead(t, "no text", "")
	refusesHead(t, "a byte", "\x01")
	refusesHead(t, "two bytes", "\x01\x01")
	refusesHead(t, "a very long text", "\x01\x02"+turning(1<<16))
}

func TestReadHeadOfEveryHouseAndEpoch(t *testing.T) {
	for house := range 256 {
		for epoch := range 256 {
			begin := string([]byte{byte(house), byte(epoch)})
			readsHeadByWords(t, begin+rootAt(0))
			readsHeadByWords(t, begin+rootAt(0)+rootAt(1))
		}
	}
	for _, first := range []string{"\x03", "\xff"} {
		refusesHead(t, "a house that is none", first+"\x01"+rootAt(0))
		refusesHead(t, "a house that is none", first+"\x02"+rootAt(0)+rootAt(1))
	}
	for _, second := range []string{"\x00", "\x05", "\xff"} {
		refusesHead(t, "an epoch that is none", "\x01"+second+rootAt(0))
		refusesHead(t, "an epoch that is none", "\x01"+second+rootAt(0)+rootAt(1))
	}
	refusesHead(t, "a first epoch with a Prev", "\x01\x01"+rootAt(0)+rootAt(1))
	for _, second := range []string{"\x02", "\x03", "\x04"} {
		refusesHead(t, "a later epoch without a Prev", "\x01"+second+rootAt(0))
	}
}

// Whatever bytes ReadHead takes are the text of what it answers.
func TestReadHeadOfDrawnTexts(t *testing.T) {
	state := uint64(13)
	taken := 0
	for range 20000 {
		size := []int{0, 1, 2, 17, 18, 18, 18, 19, 33, 34, 34, 34, 35, 50}[drawn(&state, 14)]
		text := make([]byte, size)
		for i := range text {
			text[i] = byte(drawn(&state, 256))
			if i < 2 {
				text[i] = byte(drawn(&state, 6))
			}
		}
		if _, right := readHeadByWords(string(text)); right {
			taken++
		}
		readsHeadByWords(t, string(text))
	}
	if taken < 500 {
		t.Errorf("just %d of the drawn texts are those of heads", taken)
	}
}

func TestHeadHashesThatAreKnown(t *testing.T) {
	first := impl.Head{House: 1, Epoch: 1, Root: "0123456789abcdef"}
	hash := unhexed(t, "da674a28e10153cf2d5523d65aa927f2")
	isHash(t, "HeadHash of a first head", impl.HeadHash(first), hash)
	second := impl.Head{House: 1, Epoch: 2, Root: "fedcba9876543210", Prev: hash}
	isHash(t, "HeadHash of a second head", impl.HeadHash(second), unhexed(t, "047743c4073f4912d9af15279f37610b"))
	if h, ok := impl.NextHead([]impl.Head{first}, 1, "fedcba9876543210"); h != second || !ok {
		t.Errorf("NextHead behind a first head: %v, %v", h, ok)
	}
}

func TestHeadHashByWords(t *testing.T) {
	seen := map[string]impl.Head{}
	for _, h := range append(rightHeads(), chainFrom(2, 4, 9)...) {
		text := headTextByWords(h)
		hash := impl.HeadHash(h)
		isHash(t, "HeadHash", hash, hashByWords(16, 4, text))
		isHash(t, "HeadHash and TagHash", hash, impl.TagHash(impl.TagHead, []string{text}, impl.HashWide))
		if len(hash) != impl.HashWide {
			t.Errorf("HeadHash of %v is %d bytes wide", h, len(hash))
		}
		if other, there := seen[hash]; there {
			t.Errorf("%v and %v have one hash", h, other)
		}
		seen[hash] = h
	}
	for _, h := range wrongHeads() {
		isHash(t, "HeadHash of what is not right", impl.HeadHash(h), "")
	}
}

func TestNextHeadBehindEachNumber(t *testing.T) {
	for _, house := range rightHouses() {
		for count := range impl.MaxEpochs {
			list := chainFrom(house, count, 2)
			for _, root := range []string{rootAt(0), strings.Repeat("\x00", 16), strings.Repeat("\xff", 16), rootAt(2)} {
				h := comesNext(t, "a right chain", list, house, root)
				if h.Epoch != count+1 || h.Root != root {
					t.Errorf("NextHead behind %d heads: %v", count, h)
				}
				isChain(t, "a chain and its next", append(slices.Clone(list), h), house, true)
			}
		}
		refusesNext(t, "all epochs", chainFrom(house, impl.MaxEpochs, 2), house, rootAt(0))
	}
	first, ok := impl.NextHead(nil, 2, rootAt(0))
	if first != (impl.Head{House: 2, Epoch: 1, Root: rootAt(0)}) || !ok {
		t.Errorf("NextHead behind none: %v, %v", first, ok)
	}
}

func TestNextHeadOfOtherHouses(t *testing.T) {
	for count := range impl.MaxEpochs + 1 {
		for _, own := range rightHouses() {
			list := chainFrom(own, count, 0)
			for _, house := range append(rightHouses(), wrongHouses()...) {
				comesNext(t, "this house", list, house, rootAt(8))
			}
			for _, house := range wrongHouses() {
				refusesNext(t, "a house that is none", list, house, rootAt(8))
			}
			if count > 0 {
				refusesNext(t, "another house", list, (own+1)%3, rootAt(8))
			}
		}
	}
}

func TestNextHeadOfOtherRoots(t *testing.T) {
	for count := range impl.MaxEpochs + 1 {
		list := chainFrom(1, count, 0)
		for _, size := range append(wrongHashWidths(), 200, 201, 1<<16) {
			refusesNext(t, "a root of another width", list, 1, turning(size))
		}
		for size := range 40 {
			comesNext(t, "a root of this width", list, 1, turning(size))
		}
	}
	for size, want := range map[int]bool{impl.HashWide - 1: false, impl.HashWide: true, impl.HashWide + 1: false} {
		if _, ok := impl.NextHead(nil, 0, turning(size)); ok != want {
			t.Errorf("NextHead of a root of %d bytes: %v", size, ok)
		}
	}
}

// brokenChains are none of this house, though most of each is right.
func brokenChains(house int) [][]impl.Head {
	var all [][]impl.Head
	for count := 1; count <= impl.MaxEpochs; count++ {
		list := chainFrom(house, count, 0)
		for at := range list {
			for _, wrong := range wrongHeads() {
				all = append(all, withHead(list, at, wrong))
			}
			for _, other := range otherHeads(list[at]) {
				if broken := withHead(list, at, other); !chainOkByWords(broken, house) {
					all = append(all, broken)
				}
			}
			all = append(all, withHead(list, at, chainFrom((house+1)%3, count, 0)[at]))
		}
		all = append(all, append(slices.Clone(list), list...), append(slices.Clone(list), impl.Head{}))
		if count > 1 {
			all = append(all, list[1:])
		}
	}
	return all
}

func TestNextHeadBehindWhatIsNoChain(t *testing.T) {
	for _, house := range rightHouses() {
		broken := brokenChains(house)
		if len(broken) < 500 {
			t.Fatal("too few broken chains")
		}
		for _, list := range broken {
			refusesNext(t, "what is no chain", list, house, rootAt(8))
			isChain(t, "what is no chain", list, house, false)
		}
	}
}

// No head breaks no rule: all of none are right, and of whatever house.
func TestChainOkOfNoHead(t *testing.T) {
	for _, house := range append(rightHouses(), wrongHouses()...) {
		isChain(t, "nil", nil, house, true)
		isChain(t, "an empty list", []impl.Head{}, house, true)
		isChain(t, "an empty piece", chainFrom(1, 4, 0)[2:2], house, true)
	}
}

func TestChainOkOfOneHead(t *testing.T) {
	for _, h := range rightHeads() {
		for _, house := range append(rightHouses(), wrongHouses()...) {
			isChain(t, "one head", []impl.Head{h}, house, house == h.House && h.Epoch == 1)
		}
	}
	for _, h := range wrongHeads() {
		isChain(t, "one head that is not right", []impl.Head{h}, h.House, false)
	}
}

func TestChainOkOfManyHeads(t *testing.T) {
	for _, own := range rightHouses() {
		for count := range impl.MaxEpochs + 1 {
			for _, house := range append(rightHouses(), wrongHouses()...) {
				isChain(t, "this house", chainFrom(own, count, 0), house, house == own || count == 0)
			}
		}
		list := chainFrom(own, impl.MaxEpochs, 0)
		last := list[len(list)-1]
		more := impl.Head{House: own, Epoch: impl.MaxEpochs + 1, Root: rootAt(9), Prev: headHashByWords(last)}
		isChain(t, "one epoch too many", append(slices.Clone(list), more), own, false)
		more.Epoch = impl.MaxEpochs
		isChain(t, "the last epoch twice", append(slices.Clone(list), more), own, false)
		more.Epoch, more.Prev = 1, ""
		isChain(t, "the first epoch again", append(slices.Clone(list), more), own, false)
		isChain(t, "very many heads", slices.Repeat(list, 1<<12), own, false)
	}
}

func TestChainOkOfPrevs(t *testing.T) {
	for count := 2; count <= impl.MaxEpochs; count++ {
		list := chainFrom(1, count, 0)
		for at := 1; at < count; at++ {
			for _, prev := range []string{"", list[at].Prev[:15], list[at].Prev + "\x00", list[at].Root, list[at-1].Root, headHashByWords(list[at]), strings.Repeat("\x00", 16), headHashByWords(chainFrom(2, count, 0)[at-1]), hashByWords(16, 8, headTextByWords(list[at-1])), hashByWords(17, 4, headTextByWords(list[at-1]))[1:]} {
				h := list[at]
				h.Prev = prev
				isChain(t, "another Prev", withHead(list, at, h), 1, false)
			}
			for place := range impl.HashWide {
				h := list[at]
				h.Prev = turned(h.Prev, place, 1)
				isChain(t, "a Prev turned", withHead(list, at, h), 1, false)
			}
		}
	}
}

// A head of another house, or of the same one with other roots ahead of it, is not taken anywhere.
func TestChainOkOfHeadsFromElsewhere(t *testing.T) {
	for count := 1; count <= impl.MaxEpochs; count++ {
		list := chainFrom(0, count, 0)
		for at := range list {
			for house := 1; house < impl.MaxHouses; house++ {
				isChain(t, "a head of another chain", withHead(list, at, chainFrom(house, count, 0)[at]), 0, false)
				moved := list[at]
				moved.House = house
				isChain(t, "a head with another house", withHead(list, at, moved), 0, false)
			}
			other := chainFrom(0, count, 9)
			isChain(t, "a head of other roots", withHead(list, at, other[at]), 0, count == 1)
			isChain(t, "chains joined", slices.Concat(list[:at], other[at:]), 0, at == 0)
		}
	}
}

func textsOfHeads(list ...impl.Head) []string {
	var texts []string
	for _, h := range list {
		texts = append(texts, h.Root, h.Prev)
	}
	return texts
}

// ownHeads have texts that no other list has.
func ownHeads(house, count int) []impl.Head {
	list := chainFrom(house, count, 0)
	for i, h := range list {
		list[i].Root, list[i].Prev = strings.Clone(h.Root), strings.Clone(h.Prev)
	}
	return list
}

func TestHeadsAnswerNewMemory(t *testing.T) {
	for count := range impl.MaxEpochs {
		list := ownHeads(1, count)
		was := slices.Clone(list)
		root := strings.Clone(rootAt(8))
		next, _ := impl.NextHead(list, 1, root)
		noneShares(t, "NextHead and what it was given", textsOfHeads(next), append(textsOfHeads(list...), root))
		again, _ := impl.NextHead(list, 1, root)
		noneShares(t, "two answers of NextHead", textsOfHeads(next), textsOfHeads(again))
		text, _ := impl.HeadText(next)
		noneShares(t, "HeadText and its head", []string{text}, textsOfHeads(next))
		read, _ := impl.ReadHead(text)
		noneShares(t, "ReadHead and its text", textsOfHeads(read), []string{text})
		noneShares(t, "HeadHash and its head", []string{impl.HeadHash(next)}, textsOfHeads(next))
		if !slices.Equal(list, was) {
			t.Error("heads were written into")
		}
	}
}

// What is handed in may be a piece of a longer list, whose spare room is somebody else's.
func TestHeadsWriteIntoNoSpareRoom(t *testing.T) {
	for _, room := range [][]impl.Head{chainFrom(1, 4, 0), rightHeads(), wrongHeads()} {
		was := slices.Clone(room)
		for size := range len(room) + 1 {
			for house := range impl.MaxHouses {
				impl.NextHead(room[:size], house, rootAt(8))
				impl.ChainOk(room[:size], house)
			}
			if !slices.Equal(room, was) {
				t.Fatalf("with %d heads handed in, they or the room behind them were written into", size)
			}
		}
	}
}

// Every call answers from what it is given alone: again the same, whatever was refused between.
func TestHeadsKeepNothing(t *testing.T) {
	for range 20 {
		for _, house := range rightHouses() {
			list := chainFrom(house, 3, house)
			comesNext(t, "the same again", list, house, rootAt(8))
			refusesNext(t, "another house between", list, (house+1)%3, rootAt(8))
			isChain(t, "the same again", list, house, true)
			isChain(t, "another house between", list, (house+2)%3, false)
			readsHeadByWords(t, headTextByWords(list[2]))
			refusesHead(t, "a torn text between", headTextByWords(list[2])[:20])
		}
	}
}

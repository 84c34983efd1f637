package tests

import (
	"math"
	"slices"
	"strings"
	"testing"

	"loop.example/g00284/impl"
)

func changeOf(id int, name, value string) impl.Change {
	return impl.Change{Id: id, Name: name, Value: value}
}

func rightIds() []int {
	return []int{1, 2, 3, 9, 10, 50, 63, 64, 97, 98, 99}
}

// wrongIds are just past both ends, far past them, and such that some of their bits are a right one.
func wrongIds() []int {
	return []int{0, -1, -2, -98, -99, -100, -127, -128, -256, 100, 101, 127, 128, 129, 128 + 99, 255, 256, 257, 256 + 99, 65537, 1000000000, 1000000001, 1<<32 + 1, 1<<32 + 99, -1<<32 + 1, math.MaxInt, math.MaxInt - 1, math.MinInt, math.MinInt + 1}
}

func rightChangeNames() []string {
	names := []string{"ann", "bob", "n10a", "abcdefghijkl"}
	for _, l := range edgeLeaves() {
		names = append(names, l.Name)
	}
	return names
}

// runeWords have a rune past 127, or bytes that are none. The lowest bytes of many of these runes are a name's, and so are the lowest seven bits of many of these bytes.
func runeWords() []string {
	return []string{
		"ä", "aä", "äa", "aäb", "ääääää", "aäääääa", "\u0161", "a\u0161", "\u0161b", "\u0130", "\u0140", "\u012e", "\u6161", "a\u6161", "\U00010061", "\U00010161a", "\uff41", "\u017f", "\u212a", "\ufffd", "a\ufffd", "\ufffda", "\u0080", "a\u0301", "\u200ba", "\ufeffa",
		"\x80", "\xff", "\xc3", "a\xc3", "\xc3a", "\xa4", "a\xa4b", "\xe1", "\xb0", "\xc0", "\xae", "\xc1\xa1", "\xc0\x80", "\xe0\x81\xa1", "\xed\xa0\x80", "\xf4\x90\x80\x80", "\xe6\x85", "a\xe6\x85", "\xf0\x90\x81", "abcdefghijk\xc3", "\xa4bcdefghijkl", "abcdefghij\xc3\xa4", "abcdefghijk\xc3\xa4",
	}
}

func wrongChangeNames() []string {
	return append(wrongLeafNames(), runeWords()...)
}

func rightChangeValues() []string {
	values := []string{"", "k1", "-", "#", "ABCDEFGHIJKL"}
	for _, l := range edgeLeaves() {
		values = append(values, l.Value)
	}
	return values
}

// wrongChangeValues are without the empty one, which tells that the name is to go.
func wrongChangeValues() []string {
	return slices.DeleteFunc(append(wrongLeafValues(), runeWords()...), func(s string) bool { return s == "" })
}

func rightChanges() []impl.Change {
	var list []impl.Change
	for i, name := range rightChangeNames() {
		for j, value := range rightChangeValues() {
			list = append(list, changeOf(rightIds()[(i+j)%len(rightIds())], name, value))
		}
	}
	for id := 1; id <= 99; id++ {
		list = append(list, changeOf(id, "ann", ""), changeOf(id, "ann", "k1"))
	}
	return list
}

// wrongChanges are wrong for one reason alone, each.
func wrongChanges() []impl.Change {
	list := []impl.Change{}
	for _, id := range wrongIds() {
		list = append(list, changeOf(id, "ann", ""), changeOf(id, "ann", "k1"))
	}
	for _, name := range wrongChangeNames() {
		list = append(list, changeOf(1, name, ""), changeOf(99, name, "k1"))
	}
	for _, value := range wrongChangeValues() {
		list = append(list, changeOf(1, "ann", value), changeOf(99, "abcdefghijkl", value))
	}
	return list
}

func changeOkByWords(u impl.Change) bool {
	return u.Id >= 1 && u.Id <= 99 && wordByWords(u.Name, inNameByWords) && (u.Value == "" || wordByWords(u.Value, inValueByWords))
}

func changePieces(u impl.Change) []numberOrText {
	return []numberOrText{numberPiece(u.Id), numberPiece(len(u.Name)), textPiece(u.Name), numberPiece(len(u.Value)), textPiece(u.Value)}
}

// changeTextByWords is of any change whose Id is not below 0, right or not, so that wrong texts can be made by it.
func changeTextByWords(u impl.Change) string {
	return textOfPieces(changePieces(u))
}

// readChangeByWords makes do with one byte a number: those of right changes are all below 128.
func readChangeByWords(text string) (impl.Change, bool) {
	if len(text) < 2 || 2+int(text[1]) >= len(text) {
		return impl.Change{}, false
	}
	name, rest := text[2:2+int(text[1])], text[2+int(text[1]):]
	u := changeOf(int(text[0]), name, rest[1:])
	if int(rest[0]) != len(u.Value) || !changeOkByWords(u) {
		return impl.Change{}, false
	}
	return u, true
}

func applyByWords(list []impl.Leaf, u impl.Change) []impl.Leaf {
	var next []impl.Leaf
	if u.Value == "" {
		next, _ = dropByWords(list, u.Name)
	} else {
		next, _ = putByWords(list, u.Name, u.Value)
	}
	return next
}

func applyAllByWords(list []impl.Leaf, changes []impl.Change) []impl.Leaf {
	for _, u := range changes {
		list = applyByWords(list, u)
	}
	return list
}

func isChangeOk(t *testing.T, what string, u impl.Change, want bool) {
	t.Helper()
	if got := impl.ChangeOk(u); got != want {
		t.Errorf("%s: ChangeOk of %d, %.60q, %.60q is %v", what, u.Id, u.Name, u.Value, got)
	}
}

// changeComesBack answers the text.
func changeComesBack(t *testing.T, u impl.Change) string {
	t.Helper()
	text, ok := impl.ChangeText(u)
	if text != changeTextByWords(u) || !ok {
		t.Errorf("ChangeText of %v: %q, %v", u, text, ok)
	}
	if back, ok := impl.ReadChange(text); back != u || !ok {
		t.Errorf("ReadChange of %q: %v, %v", text, back, ok)
	}
	return text
}

func noChangeText(t *testing.T, what string, u impl.Change) {
	t.Helper()
	if text, ok := impl.ChangeText(u); text != "" || ok {
		t.Errorf("%s: ChangeText of %d, %.60q, %.60q: %.60q, %v", what, u.Id, u.Name, u.Value, text, ok)
	}
}

func refusesChange(t *testing.T, what string, text string) {
	t.Helper()
	if u, ok := impl.ReadChange(text); ok || u != (impl.Change{}) {
		t.Errorf("%s: ReadChange of %.60q: %v, %v", what, text, u, ok)
	}
}

// readsChangeByWords is whether there is a change, too: whatever bytes are taken are the ChangeText of what is answered.
func readsChangeByWords(t *testing.T, text string) bool {
	t.Helper()
	want, right := readChangeByWords(text)
	if !right {
		refusesChange(t, "what no change has as its text", text)
		return false
	}
	u, ok := impl.ReadChange(text)
	if u != want || !ok {
		t.Errorf("ReadChange of %q: %v, %v; want %v", text, u, ok, want)
	}
	if again, ok := impl.ChangeText(u); again != text || !ok {
		t.Errorf("ReadChange of %q is written as %q, %v", text, again, ok)
	}
	return true
}

// applies answers what ApplyChange does.
func applies(t *testing.T, what string, list []impl.Leaf, u impl.Change) []impl.Leaf {
	t.Helper()
	was := slices.Clone(list)
	got := impl.ApplyChange(list, u)
	sameLeaves(t, what, got, true, applyByWords(list, u), true)
	sameLeaves(t, what+": the list behind ApplyChange", list, true, was, true)
	return got
}

// appliesAll wants ApplyAll to be ApplyChange of each, one by one.
func appliesAll(t *testing.T, what string, list []impl.Leaf, changes ...impl.Change) []impl.Leaf {
	t.Helper()
	was, wasChanges := slices.Clone(list), slices.Clone(changes)
	got := impl.ApplyAll(list, changes)
	sameLeaves(t, what, got, true, applyAllByWords(list, changes), true)
	each := list
	for _, u := range changes {
		each = impl.ApplyChange(each, u)
	}
	sameLeaves(t, what+", one by one", got, true, each, true)
	sameLeaves(t, what+": the list behind ApplyAll", list, true, was, true)
	if !slices.Equal(changes, wasChanges) {
		t.Errorf("%s: the changes were written into", what)
	}
	return got
}

func TestChangeOkOfIds(t *testing.T) {
	for _, value := range []string{"", "k1"} {
		for id := -1000; id <= 1000; id++ {
			isChangeOk(t, "this Id", changeOf(id, "ann", value), id >= 1 && id <= 99)
		}
		for id, want := range map[int]bool{0: false, 1: true, 99: true, 100: false} {
			isChangeOk(t, "an Id at an end", changeOf(id, "ann", value), want)
		}
		for _, id := range wrongIds() {
			isChangeOk(t, "an Id that is none", changeOf(id, "ann", value), false)
		}
	}
}

func TestChangeOkOfNamesOfEveryLength(t *testing.T) {
	for _, letter := range []string{"a", "z", "0", "9", "@", "."} {
		for size := range 40 {
			name := strings.Repeat(letter, size)
			isChangeOk(t, "a name of this length", changeOf(1, name, ""), size >= 1 && size <= impl.MaxName)
			isChangeOk(t, "a name of this length", changeOf(1, name, "k1"), size >= 1 && size <= impl.MaxName)
		}
		for _, size := range []int{127, 128, 256, 257, 256 + 12, 65536 + 3, impl.MaxText, impl.MaxText + 1} {
			isChangeOk(t, "a long name", changeOf(1, strings.Repeat(letter, size), "k1"), false)
		}
	}
}

func TestChangeOkOfEveryByteInANameAtEachPlace(t *testing.T) {
	for _, value := range []string{"", "k1"} {
		ok := func(name string) bool { return impl.ChangeOk(changeOf(5, name, value)) }
		for b := range 256 {
			hasEveryPlace(t, "ChangeOk of a name", ok, byte(b), inNameByWords(byte(b)))
		}
	}
}

// A name is of bytes: a rune that takes more than one, and a piece of such a one, are none of it, whatever their lowest bits are.
func TestChangeOkOfRunesInNames(t *testing.T) {
	for _, word := range runeWords() {
		for _, name := range []string{word, "a" + word, word + "z", "a" + word + "z", word + word} {
			isChangeOk(t, "a rune in a name", changeOf(1, name, ""), false)
			isChangeOk(t, "a rune in a name", changeOf(1, name, "k1"), false)
		}
	}
	for r := range rune(0x3000) {
		for _, name := range []string{string(r), "a" + string(r), string(r) + "@", "." + string(r) + "0"} {
			isChangeOk(t, "a rune in a name", changeOf(1, name, "k1"), r < 128 && inNameByWords(byte(r)))
		}
	}
	for _, low := range []rune{'a', 'z', '0', '9', '@', '.'} {
		for high := rune(0x100); high <= 0x10ff00; high += 0x100 {
			isChangeOk(t, "a rune whose lowest byte a name may have", changeOf(1, string(high+low), "k1"), false)
		}
	}
}

func TestChangeOkOfAllPiecesOfTwoBytes(t *testing.T) {
	for a := range 256 {
		for b := range 256 {
			name := string([]byte{byte(a), byte(b)})
			isChangeOk(t, "two bytes", changeOf(1, name, ""), inNameByWords(byte(a)) && inNameByWords(byte(b)))
		}
	}
}

func TestChangeOkOfValuesOfEveryLength(t *testing.T) {
	for _, letter := range []string{"a", "Z", "!", "~", "0", "-"} {
		for size := range 40 {
			value := strings.Repeat(letter, size)
			isChangeOk(t, "a value of this length", changeOf(1, "ann", value), size <= impl.MaxName)
		}
		for _, size := range []int{127, 128, 256, 257, 256 + 12, 65536, impl.MaxText, impl.MaxText + 1} {
			isChangeOk(t, "a long value", changeOf(1, "ann", strings.Repeat(letter, size)), false)
		}
	}
}

func TestChangeOkOfEveryByteInAValueAtEachPlace(t *testing.T) {
	ok := func(value string) bool { return impl.ChangeOk(changeOf(5, "ann", value)) }
	for b := range 256 {
		hasEveryPlace(t, "ChangeOk of a value", ok, byte(b), inValueByWords(byte(b)))
	}
	for _, word := range runeWords() {
		isChangeOk(t, "a rune in a value", changeOf(1, "ann", word), false)
		isChangeOk(t, "a rune in a value", changeOf(1, "ann", "k"+word), false)
	}
}

func TestChangeOkByWords(t *testing.T) {
	for _, id := range []int{-1, 0, 1, 50, 99, 100} {
		for _, name := range append(rightChangeNames(), wrongChangeNames()...) {
			for _, value := range append(rightChangeValues(), wrongChangeValues()...) {
				u := changeOf(id, name, value)
				isChangeOk(t, "these three", u, changeOkByWords(u))
			}
		}
	}
	for _, u := range rightChanges() {
		isChangeOk(t, "a right change", u, true)
	}
	for _, u := range wrongChanges() {
		isChangeOk(t, "one thing that is wrong", u, false)
	}
	isChangeOk(t, "nothing", impl.Change{}, false)
	isChangeOk(t, "an Id alone", impl.Change{Id: 1}, false)
}

// Whether a name or a value is right is chapter 4's business.
func TestChangeOkAsChapter4Says(t *testing.T) {
	for _, word := range slices.Concat(rightChangeNames(), wrongChangeNames(), rightChangeValues(), wrongChangeValues()) {
		isChangeOk(t, "a name", changeOf(1, word, "k1"), impl.NameOk(word))
		isChangeOk(t, "a value", changeOf(1, "ann", word), impl.ValueOk(word) || word == "")
	}
}

func TestChangeTextsThatAreKnown(t *testing.T) {
	for _, c := range []struct {
		change impl.Change
		want   string
	}{
		{changeOf(3, "ann", ""), "\x03\x03ann\x00"},
		{changeOf(1, "a", "!"), "\x01\x01a\x01!"},
		{changeOf(99, "joe@x.org", "k1"), "\x63\x09joe@x.org\x02k1"},
		{changeOf(10, "abcdefghijkl", "ABCDEFGHIJKL"), "\x0a\x0cabcdefghijkl\x0cABCDEFGHIJKL"},
		{changeOf(98, "zzzzzzzzzzzz", ""), "\x62\x0czzzzzzzzzzzz\x00"},
		{changeOf(2, "...........z", "~~~~~~~~~~~~"), "\x02\x0c...........z\x0c~~~~~~~~~~~~"},
	} {
		if text, ok := impl.ChangeText(c.change); text != c.want || !ok {
			t.Errorf("ChangeText of %v: %q, %v", c.change, text, ok)
		}
		if u, ok := impl.ReadChange(c.want); u != c.change || !ok {
			t.Errorf("ReadChange of %q: %v, %v", c.want, u, ok)
		}
	}
}

// Held against chapter 1's texts of its three parts.
func TestChangeTextsOfTheirParts(t *testing.T) {
	for _, u := range rightChanges() {
		id, idOk := impl.VarText(u.Id)
		name, nameOk := impl.ShortText(u.Name)
		value, valueOk := impl.ShortText(u.Value)
		if !idOk || !nameOk || !valueOk {
			t.Fatalf("a part of %v has no text", u)
		}
		if text, ok := impl.ChangeText(u); text != id+name+value || !ok {
			t.Errorf("ChangeText of %v: %q, %v", u, text, ok)
		}
	}
}

// P16: changes come back from their texts.
func TestChangesComeBack(t *testing.T) {
	for _, u := range rightChanges() {
		changeComesBack(t, u)
	}
	for _, id := range rightIds() {
		for _, value := range rightChangeValues() {
			changeComesBack(t, changeOf(id, "ann", value))
		}
	}
}

// P16: no two changes have one text.
func TestChangeTextsAreUnlike(t *testing.T) {
	seen := map[string]impl.Change{}
	changes := rightChanges()
	for _, name := range []string{"a", "aa", "aaa"} {
		for _, value := range []string{"", "a", "aa", "aaa"} {
			changes = append(changes, changeOf(1, name, value), changeOf(2, name, value))
		}
	}
	for _, u := range changes {
		text, _ := impl.ChangeText(u)
		if other, there := seen[text]; there && other != u {
			t.Errorf("%v and %v have one text", u, other)
		}
		seen[text] = u
	}
}

func TestChangeTextRefuses(t *testing.T) {
	for _, u := range wrongChanges() {
		noChangeText(t, "one thing that is wrong", u)
	}
	noChangeText(t, "nothing", impl.Change{})
	noChangeText(t, "all that is wrong", changeOf(0, "A", " "))
}

// fewChanges have each length at its ends, with a Value and without one.
func fewChanges() []impl.Change {
	return []impl.Change{changeOf(1, "a", ""), changeOf(99, "a", "!"), changeOf(3, "ann", ""), changeOf(98, "joe@x.org", "k1"), changeOf(50, "abcdefghijkl", ""), changeOf(99, "abcdefghijkl", "ABCDEFGHIJKL"), changeOf(2, ".", "~~~~~~~~~~~~")}
}

func TestReadChangeOfCutsAndMore(t *testing.T) {
	for _, u := range rightChanges() {
		text := changeTextByWords(u)
		refusesChange(t, "a byte shorter", text[:len(text)-1])
		refusesChange(t, "a byte shorter ahead", text[1:])
		for _, more := range []string{"\x00", "\x01", "a", "\x80", "\xff"} {
			refusesChange(t, "a byte longer", text+more)
		}
	}
	for _, u := range fewChanges() {
		text := changeTextByWords(u)
		for at := range len(text) {
			refusesChange(t, "the beginning of a text", text[:at])
		}
		for _, more := range []string{"\x00\x00", "\x01a", text, text[1:], turning(300), strings.Repeat("a", 20001)} {
			refusesChange(t, "a text and more", text+more)
			refusesChange(t, "more and a text", more+text)
		}
	}
	refusesChange(t, "no text", "")
	refusesChange(t, "a very long text", turning(1<<16))
}

// An Id that is one less or one more may be right; then it is just that of another change. A length never may.
func TestReadChangeOfOtherNumbers(t *testing.T) {
	for _, u := range fewChanges() {
		pieces := changePieces(u)
		for at, p := range pieces {
			if !p.isNumber {
				continue
			}
			for _, other := range otherNumbers(p) {
				text := textOfPieces(withPiece(pieces, at, other))
				if readsChangeByWords(t, text) && at > 0 {
					t.Errorf("%q is read with another length in it", text)
				}
			}
			for _, longer := range longerForms(p.text) {
				refusesChange(t, "a longer form of a number", textOfPieces(withPiece(pieces, at, longer)))
			}
			for b := range 256 {
				readsChangeByWords(t, textOfPieces(withPiece(pieces, at, string([]byte{byte(b)}))))
			}
		}
	}
}

func TestReadChangeOfIds(t *testing.T) {
	for _, rest := range []string{"\x03ann\x00", "\x03ann\x02k1"} {
		for id := range 20000 {
			u, ok := impl.ReadChange(lengthByWords(id) + rest)
			if right := id >= 1 && id <= 99; ok != right || right != (u.Id == id && u.Name == "ann") {
				t.Errorf("ReadChange with the Id %d: %v, %v", id, u, ok)
			}
		}
		for _, id := range []string{"", "\x80", "\xe3\x00", "\x81\x80\x00", "\x80\x94\xeb\xdc\x03", "\x81\x94\xeb\xdc\x03", "\x81\x80\x80\x80\x10", "\x81\x80\x80\x80\x80\x00", "\xff\xff\xff\xff\xff\xff\xff\xff\xff\xff"} {
			refusesChange(t, "an Id that is none", id+rest)
		}
	}
}

// Right texts, but of changes that are not.
func TestReadChangeOfWhatIsNotRight(t *testing.T) {
	for _, u := range wrongChanges() {
		if u.Id >= 0 && u.Id < 1<<20 {
			refusesChange(t, "a change that is not right", changeTextByWords(u))
		}
	}
	refusesChange(t, "the Id 0", "\x00\x03ann\x02k1")
	refusesChange(t, "the Id 100", "\x64\x03ann\x02k1")
	refusesChange(t, "an empty name", "\x01\x00\x02k1")
	refusesChange(t, "an empty name that is to go", "\x01\x00\x00")
	refusesChange(t, "a wrong name", "\x01\x03Ann\x02k1")
	refusesChange(t, "a name of 13 bytes", "\x01\x0dabcdefghijklm\x02k1")
	refusesChange(t, "a name with a rune past 127", "\x01\x04ann\u0161\x02k1")
	refusesChange(t, "a name with a piece of a rune", "\x01\x04ann\xc5\x02k1")
	refusesChange(t, "a wrong value", "\x01\x03ann\x02k ")
	refusesChange(t, "a value of 13 bytes", "\x01\x03ann\x0dABCDEFGHIJKLM")
	refusesChange(t, "no value", "\x01\x03ann")
}

func TestReadChangeOfAllShortTexts(t *testing.T) {
	letters := "\x00\x01\x02\x80a!"
	texts := []string{""}
	taken := 0
	for range 8 {
		var longer []string
		for _, text := range texts {
			if readsChangeByWords(t, text) {
				taken++
			}
			for i := range len(letters) {
				longer = append(longer, text+letters[i:i+1])
			}
		}
		texts = longer
	}
	if taken < 20 {
		t.Errorf("just %d of the short texts are those of changes", taken)
	}
}

func TestReadChangeWithOneByteTurned(t *testing.T) {
	for _, u := range append(fewChanges(), rightChanges()[:40]...) {
		text := changeTextByWords(u)
		for at := range len(text) {
			for by := 1; by < 256; by++ {
				readsChangeByWords(t, turned(text, at, byte(by)))
			}
		}
	}
}

// drawnChange is mostly right, and of few names, so that they meet.
func drawnChange(state *uint64) impl.Change {
	u := changeOf(1+drawn(state, 99), "n"+impl.Decimal(10+drawn(state, 30)), "v"+impl.Decimal(drawn(state, 50)))
	switch drawn(state, 12) {
	case 0:
		u.Name = wrongChangeNames()[drawn(state, len(wrongChangeNames()))]
	case 1:
		u.Value = wrongChangeValues()[drawn(state, len(wrongChangeValues()))]
	case 2:
		u.Id = wrongIds()[drawn(state, len(wrongIds()))]
	case 3, 4:
		u.Value = ""
	}
	return u
}

// Whatever bytes ReadChange takes are the ChangeText of what it answers.
func TestReadChangeOfDrawnTexts(t *testing.T) {
	state := uint64(16)
	taken, refused := 0, 0
	for range 20000 {
		u := drawnChange(&state)
		u.Id = drawn(&state, 130)
		text := changeTextByWords(u)
		for range drawn(&state, 3) {
			at := drawn(&state, len(text))
			text = text[:at] + string([]byte{byte(drawn(&state, 256))}) + text[min(len(text), at+drawn(&state, 3)):]
		}
		if readsChangeByWords(t, text) {
			taken++
		} else {
			refused++
		}
	}
	if taken < 1000 || refused < 1000 {
		t.Errorf("%d of the drawn texts are taken, %d refused", taken, refused)
	}
}

func TestApplyChangePuts(t *testing.T) {
	list := leavesOf("bob", "k2", "joe", "k3")
	for name, want := range map[string][]impl.Leaf{
		"ann": leavesOf("ann", "new", "bob", "k2", "joe", "k3"),
		"bob": leavesOf("bob", "new", "joe", "k3"),
		"dan": leavesOf("bob", "k2", "dan", "new", "joe", "k3"),
		"joe": leavesOf("bob", "k2", "joe", "new"),
		"zoe": leavesOf("bob", "k2", "joe", "k3", "zoe", "new"),
	} {
		sameLeaves(t, "ApplyChange puts "+name, impl.ApplyChange(list, changeOf(7, name, "new")), true, want, true)
	}
	sameLeaves(t, "ApplyChange into none", impl.ApplyChange(nil, changeOf(7, "ann", "k1")), true, leavesOf("ann", "k1"), true)
	sameLeaves(t, "ApplyChange of what is there", impl.ApplyChange(list, changeOf(7, "joe", "k3")), true, list, true)
}

func TestApplyChangeLetsGo(t *testing.T) {
	list := leavesOf("ann", "k1", "bob", "k2", "joe", "k3")
	for name, want := range map[string][]impl.Leaf{
		"ann": leavesOf("bob", "k2", "joe", "k3"),
		"bob": leavesOf("ann", "k1", "joe", "k3"),
		"joe": leavesOf("ann", "k1", "bob", "k2"),
		"dan": list,
		"a":   list,
		"zoe": list,
		"k1":  list,
	} {
		sameLeaves(t, "ApplyChange lets go "+name, impl.ApplyChange(list, changeOf(7, name, "")), true, want, true)
	}
	sameLeaves(t, "ApplyChange of the only one", impl.ApplyChange(leavesOf("ann", "k1"), changeOf(7, "ann", "")), true, nil, true)
	sameLeaves(t, "ApplyChange of none", impl.ApplyChange(nil, changeOf(7, "ann", "")), true, nil, true)
}

func TestApplyChangeByWords(t *testing.T) {
	values := append(wrongChangeValues(), "", "v", "v0", "~~~~~~~~~~~~")
	for _, list := range rightLists() {
		for _, name := range leafNames() {
			for _, value := range values {
				applies(t, "a right list", list, changeOf(9, name, value))
			}
		}
	}
}

// What LeafPut and LeafDrop answer is what is done, and what they refuse is not.
func TestApplyChangeIsLeafPutOrLeafDrop(t *testing.T) {
	for _, list := range append(rightLists(), wrongLists()...) {
		for _, name := range []string{"n10", "n15", "n33", "n10a", "a", "ann", "", "A", "ä", "n10\xc3"} {
			put, _ := impl.LeafPut(list, name, "put!")
			sameLeaves(t, "a Value", impl.ApplyChange(list, changeOf(1, name, "put!")), true, put, true)
			dropped, _ := impl.LeafDrop(list, name)
			sameLeaves(t, "no Value", impl.ApplyChange(list, changeOf(1, name, "")), true, dropped, true)
		}
	}
}

func TestApplyChangeAtTheLimit(t *testing.T) {
	full := leavesFrom(impl.MaxLeaves)
	for _, name := range []string{".", "n", "n10a", "n34", "z"} {
		sameLeaves(t, "a new name into MaxLeaves", impl.ApplyChange(full, changeOf(1, name, "v")), true, full, true)
		sameLeaves(t, "a name that is not there goes", impl.ApplyChange(full, changeOf(1, name, "")), true, full, true)
		more := applies(t, "the last one that there is room for", full[:23], changeOf(1, name, "v"))
		if len(more) != impl.MaxLeaves {
			t.Errorf("%d leaves and %q make %d", 23, name, len(more))
		}
	}
	for at, l := range full {
		other := changed(full, at, impl.Leaf{Name: l.Name, Value: "new"})
		sameLeaves(t, "a name that is there", impl.ApplyChange(full, changeOf(1, l.Name, "new")), true, other, true)
		without := slices.Delete(slices.Clone(full), at, at+1)
		sameLeaves(t, "a name that is there goes", impl.ApplyChange(full, changeOf(1, l.Name, "")), true, without, true)
		room := append(slices.Clone(without), impl.Leaf{Name: "z", Value: "v"})
		sameLeaves(t, "one goes, one comes", impl.ApplyAll(full, []impl.Change{changeOf(1, l.Name, ""), changeOf(2, "z", "v")}), true, room, true)
		sameLeaves(t, "one comes too early, one goes", impl.ApplyAll(full, []impl.Change{changeOf(1, "z", "v"), changeOf(2, l.Name, "")}), true, without, true)
	}
}

// A name or a value that is not right is not put, and is never there to be let go.
func TestApplyOfWrongNamesAndValues(t *testing.T) {
	for _, list := range [][]impl.Leaf{nil, leavesOf("ann", "k1", "bob", "k2"), leavesFrom(24)} {
		for _, name := range wrongChangeNames() {
			for _, value := range []string{"", "v"} {
				u := changeOf(5, name, value)
				sameLeaves(t, "a wrong name", impl.ApplyChange(list, u), true, list, true)
				sameLeaves(t, "wrong names", impl.ApplyAll(list, []impl.Change{u, u}), true, list, true)
			}
		}
		for _, value := range wrongChangeValues() {
			for _, name := range []string{"ann", "new", "n10"} {
				u := changeOf(5, name, value)
				sameLeaves(t, "a wrong value", impl.ApplyChange(list, u), true, list, true)
				sameLeaves(t, "wrong values", impl.ApplyAll(list, []impl.Change{u, u}), true, list, true)
			}
		}
	}
}

// LeafPut and LeafDrop know of no Id, so whatever it is, the change is done.
func TestApplyLooksAtNoId(t *testing.T) {
	list := leavesOf("ann", "k1", "bob", "k2")
	for _, id := range append(wrongIds(), rightIds()...) {
		sameLeaves(t, "a Value", impl.ApplyChange(list, changeOf(id, "ann", "new")), true, leavesOf("ann", "new", "bob", "k2"), true)
		sameLeaves(t, "no Value", impl.ApplyChange(list, changeOf(id, "ann", "")), true, leavesOf("bob", "k2"), true)
		sameLeaves(t, "two with one Id", impl.ApplyAll(list, []impl.Change{changeOf(id, "ann", ""), changeOf(id, "cat", "k3")}), true, leavesOf("bob", "k2", "cat", "k3"), true)
	}
	sameLeaves(t, "no order of Ids", impl.ApplyAll(nil, []impl.Change{changeOf(9, "a", "1"), changeOf(2, "a", "2"), changeOf(5, "a", "3")}), true, leavesOf("a", "3"), true)
}

// A list that is not right comes back as it is, also where a change would mend it.
func TestApplyToWrongLists(t *testing.T) {
	for _, list := range wrongLists() {
		names := []string{"a", "n10", "zz", "", "A"}
		for _, l := range list {
			names = append(names, l.Name)
		}
		for _, name := range names {
			for _, value := range []string{"", "v"} {
				u := changeOf(4, name, value)
				sameLeaves(t, "a wrong list", impl.ApplyChange(list, u), true, list, true)
				sameLeaves(t, "a wrong list", impl.ApplyAll(list, []impl.Change{u, changeOf(5, "b", "k")}), true, list, true)
			}
		}
		sameLeaves(t, "a wrong list and no change", impl.ApplyAll(list, nil), true, list, true)
	}
}

func TestApplyAllOfNoChanges(t *testing.T) {
	for _, list := range rightLists() {
		sameLeaves(t, "nil", impl.ApplyAll(list, nil), true, list, true)
		sameLeaves(t, "no change", impl.ApplyAll(list, []impl.Change{}), true, list, true)
		sameLeaves(t, "an empty piece", impl.ApplyAll(list, fewChanges()[2:2]), true, list, true)
	}
}

// P16: the last one of a name counts.
func TestTheLastChangeOfANameCounts(t *testing.T) {
	for _, list := range [][]impl.Leaf{nil, leavesOf("ann", "k1"), leavesOf("bob", "k2"), leavesOf("ann", "k1", "bob", "k2"), leavesFrom(20)} {
		for _, changes := range [][]impl.Change{
			{changeOf(1, "ann", "a")},
			{changeOf(1, "ann", "")},
			{changeOf(1, "ann", "a"), changeOf(2, "ann", "b")},
			{changeOf(2, "ann", "b"), changeOf(1, "ann", "a")},
			{changeOf(1, "ann", "a"), changeOf(2, "ann", "b"), changeOf(3, "ann", "a")},
			{changeOf(1, "ann", "a"), changeOf(2, "ann", "")},
			{changeOf(1, "ann", ""), changeOf(2, "ann", "a")},
			{changeOf(1, "ann", "a"), changeOf(2, "ann", ""), changeOf(3, "ann", "b")},
			{changeOf(1, "ann", ""), changeOf(2, "ann", "a"), changeOf(3, "ann", "")},
			{changeOf(1, "ann", "a"), changeOf(2, "ann", ""), changeOf(3, "ann", "")},
			{changeOf(1, "ann", "a"), changeOf(2, "ann", ""), changeOf(3, "ann", "b"), changeOf(4, "ann", ""), changeOf(5, "ann", "c")},
			{changeOf(1, "ann", "a"), changeOf(2, "zoe", "z"), changeOf(3, "ann", "b"), changeOf(4, "zoe", "")},
			{changeOf(1, "zoe", "z"), changeOf(2, "ann", ""), changeOf(3, "zoe", ""), changeOf(4, "ann", "a"), changeOf(5, "zoe", "y")},
		} {
			got := appliesAll(t, "changes of one name", list, changes...)
			names := []string{"ann", "zoe", "bob", "n10"}
			for _, u := range changes {
				names = slices.DeleteFunc(names, func(name string) bool { return name == u.Name })
			}
			for i, u := range changes {
				if !slices.ContainsFunc(changes[i+1:], func(later impl.Change) bool { return later.Name == u.Name }) {
					gets(t, got, u.Name, u.Value, u.Value != "")
				}
			}
			for _, name := range names {
				value, there := impl.LeafGet(list, name)
				gets(t, got, name, value, there)
			}
		}
	}
}

// P16, in drawn rows of changes of few names: as there is room for all of them, each stands for what the last one of it says.
func TestTheLastChangeCountsInDrawnRows(t *testing.T) {
	state := uint64(160)
	names := []string{"ann", "bob", "cat", "dan", "eve", "joe@x.org", ".", "zzzzzzzzzzzz"}
	values := []string{"", "k1", "k2", "k3", ""}
	for range 1500 {
		list := leavesFrom(drawn(&state, 16))
		told := map[string]string{}
		var changes []impl.Change
		for i := range drawn(&state, 40) {
			u := changeOf(1+i, names[drawn(&state, len(names))], values[drawn(&state, len(values))])
			changes = append(changes, u)
			told[u.Name] = u.Value
		}
		got := appliesAll(t, "drawn changes", list, changes...)
		if !impl.LeavesOk(got) {
			t.Fatalf("drawn changes make %v", got)
		}
		for _, name := range names {
			gets(t, got, name, told[name], told[name] != "")
		}
		for _, l := range list {
			gets(t, got, l.Name, l.Value, true)
		}
	}
}

// More names than there is room for, and changes that are not right: what is done is what ApplyChange of each does.
func TestApplyAllOneByOneInDrawnRows(t *testing.T) {
	state := uint64(1600)
	full := 0
	for range 600 {
		list := leavesFrom(drawn(&state, 27))
		if drawn(&state, 8) == 0 && len(list) > 1 {
			list = swapped(list, 0, len(list)-1)
		}
		var changes []impl.Change
		for range drawn(&state, 60) {
			changes = append(changes, drawnChange(&state))
		}
		if got := appliesAll(t, "drawn changes", list, changes...); len(got) == impl.MaxLeaves {
			full++
		}
		half := drawn(&state, len(changes)+1)
		twice := impl.ApplyAll(impl.ApplyAll(list, changes[:half]), changes[half:])
		sameLeaves(t, "in two parts", twice, true, impl.ApplyAll(list, changes), true)
	}
	if full < 20 {
		t.Errorf("just %d lists were at the limit", full)
	}
}

func TestApplyAllOfManyChanges(t *testing.T) {
	var changes []impl.Change
	for i := range 5000 {
		changes = append(changes, changeOf(1+i%99, "n"+impl.Decimal(10+i%30), "v"+impl.Decimal(i)))
	}
	got := appliesAll(t, "very many changes", nil, changes...)
	if len(got) != impl.MaxLeaves {
		t.Errorf("very many changes make %d leaves", len(got))
	}
	gets(t, got, "n33", "v4973", true)
	gets(t, got, "n34", "", false)
}

// What a change does is the same when it went through its text.
func TestChangesReadAgainDoTheSame(t *testing.T) {
	for _, list := range [][]impl.Leaf{nil, edgeLeaves(), leavesFrom(24)} {
		for _, u := range rightChanges() {
			text, _ := impl.ChangeText(u)
			back, _ := impl.ReadChange(text)
			sameLeaves(t, "a change that was read", impl.ApplyChange(list, back), true, impl.ApplyChange(list, u), true)
		}
	}
}

func ownChange(u impl.Change) impl.Change {
	return changeOf(u.Id, strings.Clone(u.Name), strings.Clone(u.Value))
}

func textsOfChanges(list ...impl.Change) []string {
	var texts []string
	for _, u := range list {
		texts = append(texts, u.Name, u.Value)
	}
	return texts
}

func TestChangeTextsAnswerNewMemory(t *testing.T) {
	for _, u := range fewChanges() {
		u = ownChange(u)
		text, _ := impl.ChangeText(u)
		noneShares(t, "a text and its change", []string{text}, textsOfChanges(u))
		read, _ := impl.ReadChange(text)
		noneShares(t, "what was read and its text", textsOfChanges(read), []string{text})
		noneShares(t, "the name and the value that were read", []string{read.Name}, []string{read.Value})
	}
}

// Also where nothing is changed the answer is a list of its own.
func TestAppliedChangesAnswerNewMemory(t *testing.T) {
	list := ownLeaves()
	wrong := append(ownLeaves(), ownLeaves()...)
	changes := []impl.Change{ownChange(changeOf(1, "n12a", "new")), ownChange(changeOf(2, "n12", "other")), ownChange(changeOf(3, "n13", "")), ownChange(changeOf(4, "none", "")), ownChange(changeOf(5, "A b", "new")), ownChange(changeOf(6, "n11", "a b"))}
	was, wasWrong, wasChanges := slices.Clone(list), slices.Clone(wrong), slices.Clone(changes)
	given := append(textsOfLeaves(list, wrong), textsOfChanges(changes...)...)
	var answers [][]impl.Leaf
	for _, from := range [][]impl.Leaf{list, wrong} {
		for i, u := range changes {
			answers = append(answers, impl.ApplyChange(from, u), impl.ApplyAll(from, changes[i:i+1]), impl.ApplyAll(from, changes[:i]))
		}
		answers = append(answers, impl.ApplyAll(from, changes), impl.ApplyAll(from, nil), impl.ApplyAll(from, changes[3:]))
	}
	for i, answer := range answers {
		if len(answer) == 0 {
			t.Fatalf("answer %d is empty", i)
		}
		noneShares(t, "an answer and what was handed in", textsOfLeaves(answer), given)
		for _, other := range answers[:i] {
			if &answer[0] == &other[0] {
				t.Fatalf("answer %d is another one's list", i)
			}
		}
	}
	for _, answer := range answers {
		clear(answer[:cap(answer)])
	}
	if !slices.Equal(list, was) || !slices.Equal(wrong, wasWrong) || !slices.Equal(changes, wasChanges) {
		t.Error("an argument goes with what was made of it")
	}
}

// Lists that are handed in may be pieces of longer ones, whose spare room is somebody else's.
func TestChangesWriteIntoNoSpareRoom(t *testing.T) {
	changes := []impl.Change{changeOf(1, ".", "v"), changeOf(2, "n10", ""), changeOf(3, "n12", "other"), changeOf(4, "n12a", "v"), changeOf(5, "z", "v"), changeOf(6, "z", ""), changeOf(7, "A", "v"), changeOf(8, "n21", "a b")}
	wasChanges := slices.Clone(changes)
	for _, room := range [][]impl.Leaf{leavesFrom(12), swapped(leavesFrom(12), 0, 1), leavesFrom(26)} {
		was := slices.Clone(room)
		for size := range len(room) + 1 {
			list := room[:size]
			for i, u := range changes {
				for _, answer := range [][]impl.Leaf{impl.ApplyChange(list, u), impl.ApplyAll(list, changes[:i]), impl.ApplyAll(list, changes[i:])} {
					clear(append(answer, leavesFrom(3)...))
					clear(answer[:cap(answer)])
				}
			}
			if !slices.Equal(room, was) || !slices.Equal(changes, wasChanges) {
				t.Fatalf("with %d leaves handed in, they, the changes or the room behind them were written into", size)
			}
		}
	}
}

// Every call answers from what it is given alone: again the same, whatever was refused between, and what was changed of an answer is not in the next one.
func TestChangesKeepNothing(t *testing.T) {
	list := leavesFrom(20)
	changes := []impl.Change{changeOf(1, "n12a", "v"), changeOf(2, "n12", ""), changeOf(3, "n13", "other")}
	for range 30 {
		answers := [][]impl.Leaf{applies(t, "again", list, changes[0]), appliesAll(t, "again", list, changes...), appliesAll(t, "again none", list)}
		for _, answer := range answers {
			clear(answer)
		}
		text := changeComesBack(t, changes[0])
		refusesChange(t, "a torn text between", text[:len(text)-1])
		noChangeText(t, "a wrong change between", changeOf(100, "n12a", "v"))
		applies(t, "a wrong list between", leavesFrom(25), changes[0])
		isChangeOk(t, "again", changes[1], true)
	}
}

package tests

import (
	"crypto/sha256"
	"math"
	"slices"
	"strings"
	"testing"

	"loop.example/g00284/impl"
)

// allKinds are the kinds of tags, in the document's order.
func allKinds() []int {
	return []int{impl.TagEmpty, impl.TagBucket, impl.TagNode, impl.TagHead, impl.TagKey, impl.TagPublic, impl.TagSign, impl.TagStamp}
}

// wrongKinds are none, though the lowest byte of some of them is one.
func wrongKinds() []int {
	return []int{0, 9, -1, -8, 10, 255, 256, 257, 264, -255, 1<<32 + 1, math.MaxInt, math.MinInt, math.MinInt + 1}
}

// tagByWords does what the chapter says, byte by byte; a part is of at most 200 bytes.
func tagByWords(kind int, parts []string) string {
	out := []byte{byte(kind)}
	for _, part := range parts {
		size := len(part)
		if size > 127 {
			out = append(out, byte(size%128+128))
			size /= 128
		}
		out = append(out, byte(size))
		out = append(out, part...)
	}
	return string(out)
}

// someParts are lists of parts of which no two are alike, many of which have the same bytes in all.
func someParts() [][]string {
	return [][]string{
		{}, {""}, {"", ""}, {"", "", ""},
		{"a"}, {"", "a"}, {"a", ""}, {"", "a", ""}, {"a", "", ""},
		{"ab"}, {"a", "b"}, {"b", "a"}, {"a", "", "b"}, {"", "ab"}, {"ab", ""}, {"", "a", "b"}, {"a", "b", ""},
		{"abc"}, {"a", "bc"}, {"ab", "c"}, {"a", "b", "c"}, {"c", "b", "a"}, {"bc", "a"},
		{"\x00"}, {"\x00", "\x00"}, {"\x00\x00"}, {"\x01"}, {"\x01", "\x01"}, {"\x01\x01"}, {"\x01a"}, {"a\x01b"}, {"\x02ab"}, {"\x80"}, {"\x80\x01"},
		{allBytes()[:128]}, {allBytes()[128:]}, {allBytes()[:128], allBytes()[128:]}, {allBytes()[:127], allBytes()[127:256]},
		{strings.Repeat("x", 127)}, {strings.Repeat("x", 128)}, {strings.Repeat("x", 199)}, {strings.Repeat("x", 200)},
		{strings.Repeat("x", 100), strings.Repeat("x", 100)}, {strings.Repeat("x", 99), strings.Repeat("x", 101)},
		slices.Repeat([]string{""}, 59), slices.Repeat([]string{""}, 60),
		slices.Repeat([]string{"part"}, 59), slices.Repeat([]string{"part"}, 60),
		slices.Repeat([]string{strings.Repeat("y", 200)}, 60),
	}
}

func TestTagConstants(t *testing.T) {
	if got := allKinds(); !slices.Equal(got, []int{1, 2, 3, 4, 5, 6, 7, 8}) {
		t.Errorf("kinds %v", got)
	}
	if impl.Depth != 8 || impl.MaxName != 12 {
		t.Errorf("Depth %d, MaxName %d", impl.Depth, impl.MaxName)
	}
}

func TestTagTextBytes(t *testing.T) {
	long := strings.Repeat("z", 200)
	for _, c := range []struct {
		kind  int
		parts []string
		want  string
	}{
		{impl.TagEmpty, nil, "\x01"},
		{impl.TagEmpty, []string{}, "\x01"},
		{impl.TagEmpty, []string{""}, "\x01\x00"},
		{impl.TagBucket, []string{"", ""}, "\x02\x00\x00"},
		{impl.TagNode, []string{"a", "bc"}, "\x03\x01a\x02bc"},
		{impl.TagHead, []string{"", "a", ""}, "\x04\x00\x01a\x00"},
		{impl.TagKey, []string{"seed", "\x00", "\x01", "\x00"}, "\x05\x04seed\x01\x00\x01\x01\x01\x00"},
		{impl.TagPublic, []string{strings.Repeat("p", 127)}, "\x06\x7f" + strings.Repeat("p", 127)},
		{impl.TagSign, []string{strings.Repeat("q", 128), "r"}, "\x07\x80\x01" + strings.Repeat("q", 128) + "\x01r"},
		{impl.TagStamp, []string{long, long}, "\x08\xc8\x01" + long + "\xc8\x01" + long},
	} {
		if got, ok := impl.TagText(c.kind, c.parts); !ok || got != c.want {
			t.Errorf("TagText(%d, %.20q) = %q, %v; want %q", c.kind, c.parts, got, ok, c.want)
		}
	}
}

func TestTagTextByWords(t *testing.T) {
	for _, kind := range allKinds() {
		for _, parts := range someParts() {
			if got, ok := impl.TagText(kind, parts); !ok || got != tagByWords(kind, parts) {
				t.Errorf("TagText(%d, %d parts %.20q) = %.40q, %v; want %.40q", kind, len(parts), parts, got, ok, tagByWords(kind, parts))
			}
		}
	}
}

func TestTagTextOfEveryNumberOfParts(t *testing.T) {
	for count := range 70 {
		for _, part := range []string{"", "a", turning(200)} {
			parts := slices.Repeat([]string{part}, count)
			if count > 60 {
				refusesTag(t, impl.TagNode, parts)
				continue
			}
			if got, ok := impl.TagText(impl.TagNode, parts); !ok || got != tagByWords(impl.TagNode, parts) {
				t.Errorf("TagText of %d parts of %d bytes: %d bytes, %v", count, len(part), len(got), ok)
			}
		}
	}
}

func TestTagTextOfEveryLengthOfAPart(t *testing.T) {
	for size := range 300 {
		for _, parts := range [][]string{{turning(size)}, {turning(size), "a", ""}, {"", "a", turning(size)}, {"a", turning(size), "b"}} {
			if size > 200 {
				refusesTag(t, impl.TagHead, parts)
				continue
			}
			if got, ok := impl.TagText(impl.TagHead, parts); !ok || got != tagByWords(impl.TagHead, parts) {
				t.Errorf("TagText of %d parts, one of %d bytes: %d bytes, %v", len(parts), size, len(got), ok)
			}
		}
	}
}

// refusesTag wants TagText to be false, with no text, and TagHash to be empty at every width.
func refusesTag(t *testing.T, kind int, parts []string) {
	t.Helper()
	if got, ok := impl.TagText(kind, parts); ok || got != "" {
		t.Errorf("TagText(%d, %d parts %.20q) = %d bytes, %v; want false", kind, len(parts), parts, len(got), ok)
	}
	for _, w := range []int{-1, 0, 1, 16, 32, 33} {
		if got := impl.TagHash(kind, parts, w); got != "" {
			t.Errorf("TagHash(%d, %d parts %.20q, %d) = %x; want nothing", kind, len(parts), parts, w, got)
		}
	}
}

func TestTagTextRefusesKinds(t *testing.T) {
	for _, kind := range wrongKinds() {
		for _, parts := range [][]string{nil, {}, {""}, {"a", "bc"}, slices.Repeat([]string{"a"}, 61), {strings.Repeat("a", 201)}} {
			refusesTag(t, kind, parts)
		}
	}
}

func TestTagTextRefusesTooManyParts(t *testing.T) {
	for _, kind := range allKinds() {
		for _, count := range []int{61, 62, 120, 256, 256 + 1, 20000} {
			refusesTag(t, kind, slices.Repeat([]string{""}, count))
			refusesTag(t, kind, slices.Repeat([]string{"a"}, count))
		}
	}
}

func TestTagTextRefusesLongParts(t *testing.T) {
	for _, kind := range allKinds() {
		for _, size := range []int{201, 202, 256, 328, 456, impl.MaxText, impl.MaxText + 1} {
			for at := range 3 {
				parts := []string{"a", "", "b"}
				parts[at] = turning(size)
				refusesTag(t, kind, parts)
			}
			last := slices.Repeat([]string{"a"}, 60)
			last[59] = turning(size)
			refusesTag(t, kind, last)
		}
	}
}

// P4: unlike kinds, and unlike parts, make unlike texts and unlike hashes.
func TestUnlikePartsMakeUnlikeTexts(t *testing.T) {
	type made struct {
		kind  int
		parts []string
	}
	texts := map[string]made{}
	hashes := map[string]made{}
	for _, kind := range allKinds() {
		for _, parts := range someParts() {
			text, ok := impl.TagText(kind, parts)
			if !ok {
				t.Fatalf("TagText(%d, %.20q) is false", kind, parts)
			}
			if was, is := texts[text]; is {
				t.Errorf("TagText of %d %.20q is that of %d %.20q", kind, parts, was.kind, was.parts)
			}
			hash := impl.TagHash(kind, parts, 32)
			if was, is := hashes[hash]; is {
				t.Errorf("TagHash of %d %.20q is that of %d %.20q", kind, parts, was.kind, was.parts)
			}
			texts[text] = made{kind, parts}
			hashes[hash] = made{kind, parts}
		}
	}
}

// othersOf are parts that differ from these a little: one cut in two, one more, one less, two that stand in each other's place, two that are joined, a byte turned.
func othersOf(parts []string) [][]string {
	others := [][]string{}
	for at, part := range parts {
		for cut := range len(part) + 1 {
			others = append(others, slices.Replace(slices.Clone(parts), at, at+1, part[:cut], part[cut:]))
		}
		for place := range len(part) {
			others = append(others, slices.Replace(slices.Clone(parts), at, at+1, turned(part, place, 1)))
		}
		others = append(others, slices.Delete(slices.Clone(parts), at, at+1))
		if at > 0 {
			others = append(others, slices.Replace(slices.Clone(parts), at-1, at+1, parts[at-1]+part))
			if parts[at-1] != part {
				others = append(others, slices.Replace(slices.Clone(parts), at-1, at+1, part, parts[at-1]))
			}
		}
	}
	for at := range len(parts) + 1 {
		for _, one := range []string{"", "a", "\x00", "\x01"} {
			others = append(others, slices.Insert(slices.Clone(parts), at, one))
		}
	}
	return others
}

// P4: the least change of kind or parts makes another text.
func TestLittleChangesMakeAnotherText(t *testing.T) {
	for _, parts := range [][]string{{}, {""}, {"a"}, {"a", "bc"}, {"ab", "", "c"}, {"", "", ""}, {"\x01a", "\x01", "\x00"}, {"joe@x.org", "key", strings.Repeat("h", 130)}} {
		text, ok := impl.TagText(impl.TagNode, parts)
		if !ok {
			t.Fatalf("TagText of %q is false", parts)
		}
		for _, other := range othersOf(parts) {
			if got, ok := impl.TagText(impl.TagNode, other); !ok || got == text {
				t.Errorf("%q and %q: %q, %v", parts, other, got, ok)
			}
		}
		for _, kind := range allKinds() {
			if got, ok := impl.TagText(kind, parts); !ok || (got == text) != (kind == impl.TagNode) {
				t.Errorf("of the kinds %d and %d %q makes %q, %v", impl.TagNode, kind, parts, got, ok)
			}
		}
	}
}

// P4: what was digested can be read back, kind and parts, so no two of them share a text.
func TestTagTextIsReadBack(t *testing.T) {
	for _, kind := range allKinds() {
		for _, parts := range someParts() {
			text, _ := impl.TagText(kind, parts)
			if text == "" || int(text[0]) != kind {
				t.Fatalf("TagText(%d, %.20q) = %.20q", kind, parts, text)
			}
			read := []string{}
			for at := 1; at < len(text); {
				part, behind, ok := impl.ReadShort(text, at)
				if !ok {
					t.Fatalf("TagText(%d, %.20q) has no part at %d", kind, parts, at)
				}
				read = append(read, part)
				at = behind
			}
			if !slices.Equal(read, parts) {
				t.Errorf("of %d parts %.20q %d are read: %.20q", len(parts), parts, len(read), read)
			}
		}
	}
}

func TestTagHashIsCutDigestOfTagText(t *testing.T) {
	for _, kind := range allKinds() {
		for _, parts := range someParts() {
			whole := sha256.Sum256([]byte(tagByWords(kind, parts)))
			for _, w := range []int{1, 2, 4, 8, 16, 31, 32} {
				if got := impl.TagHash(kind, parts, w); got != string(whole[:w]) {
					t.Errorf("TagHash(%d, %.20q, %d) = %x; want %x", kind, parts, w, got, whole[:w])
				}
			}
		}
	}
}

func TestTagHashOfEveryWidth(t *testing.T) {
	parts := []string{"a", "", "bc"}
	text, _ := impl.TagText(impl.TagStamp, parts)
	for w := -3; w < 40; w++ {
		got := impl.TagHash(impl.TagStamp, parts, w)
		if got != impl.CutDigest(text, w) || len(got) > 0 != (w >= 1 && w <= 32) {
			t.Errorf("TagHash at %d = %x; want %x", w, got, impl.CutDigest(text, w))
		}
	}
}

func TestTagHashRefusesWidths(t *testing.T) {
	for _, w := range []int{0, 33, -1, 64, -32, 257, 1<<32 + 1, math.MaxInt, math.MinInt} {
		for _, kind := range allKinds() {
			for _, parts := range [][]string{nil, {""}, {"a", "bc"}} {
				if got := impl.TagHash(kind, parts, w); got != "" {
					t.Errorf("TagHash(%d, %q, %d) = %x; want nothing", kind, parts, w, got)
				}
			}
		}
	}
}

// The parts may be a piece of a longer list, whose spare room is somebody else's.
func TestTagsWriteIntoNoArgument(t *testing.T) {
	for _, size := range []int{0, 1, 3, 60, 61} {
		room := slices.Repeat([]string{"a", "", "bc"}, 30)
		was := slices.Clone(room)
		for _, kind := range []int{0, impl.TagEmpty, impl.TagNode, impl.TagStamp, 9} {
			impl.TagText(kind, room[:size])
			impl.TagHash(kind, room[:size], 16)
		}
		if !slices.Equal(room, was) {
			t.Errorf("%d parts became %q", size, room)
		}
	}
	parts := []string{"", strings.Repeat("x", 201), "b"}
	was := slices.Clone(parts)
	refusesTag(t, impl.TagNode, parts)
	if !slices.Equal(parts, was) {
		t.Errorf("parts became %.20q", parts)
	}
}

func TestTagsAnswerNewMemory(t *testing.T) {
	for _, size := range []int{1, 2, 127, 128, 200} {
		part := strings.Clone(turning(size))
		text, _ := impl.TagText(impl.TagNode, []string{part})
		if sharesMemory(text, part) || sharesMemory(impl.TagHash(impl.TagNode, []string{part}, 32), part) {
			t.Errorf("a tag of %d bytes hands its argument's memory on", size)
		}
	}
}

// inNameByWords: letters a-z, figures, @ and a point.
func inNameByWords(b byte) bool {
	return strings.IndexByte("abcdefghijklmnopqrstuvwxyz0123456789@.", b) >= 0
}

func inValueByWords(b byte) bool {
	return b >= 33 && b <= 126
}

func TestNameOkOfEveryByte(t *testing.T) {
	for b := range 256 {
		hasEveryPlace(t, "NameOk", impl.NameOk, byte(b), inNameByWords(byte(b)))
	}
}

func TestValueOkOfEveryByte(t *testing.T) {
	for b := range 256 {
		hasEveryPlace(t, "ValueOk", impl.ValueOk, byte(b), inValueByWords(byte(b)))
	}
}

// hasEveryPlace wants this of the byte alone, and at each place of words of each length up to MaxName.
func hasEveryPlace(t *testing.T, name string, ok func(string) bool, b byte, want bool) {
	t.Helper()
	for size := 1; size <= 12; size++ {
		for at := range size {
			word := []byte(strings.Repeat("m", size))
			word[at] = b
			if got := ok(string(word)); got != want {
				t.Errorf("%s(%q) = %v", name, word, got)
			}
		}
		if got := ok(strings.Repeat(string([]byte{b}), size)); got != want {
			t.Errorf("%s of %d times %q = %v", name, size, b, got)
		}
	}
	if ok(strings.Repeat(string([]byte{b}), 13)) {
		t.Errorf("%s of 13 times %q is true", name, b)
	}
}

func TestNamesAndValuesOfEveryLength(t *testing.T) {
	for _, size := range []int{0, 1, 2, 6, 11, 12, 13, 14, 24, 256, 257, 268, impl.MaxText + 1} {
		want := size >= 1 && size <= 12
		for _, letter := range []string{"a", "z", "0", "9", "@", "."} {
			word := strings.Repeat(letter, size)
			if got := impl.NameOk(word); got != want {
				t.Errorf("NameOk of %d bytes %s = %v", size, letter, got)
			}
			if got := impl.ValueOk(word); got != want {
				t.Errorf("ValueOk of %d bytes %s = %v", size, letter, got)
			}
		}
	}
}

func TestNamesThatAreKnown(t *testing.T) {
	for _, name := range []string{"a", "joe@x.org", "@", ".", "...", "0", "007", "z9@.a0", "abcdefghijkl", "mnopqrstuvwx", "yz0123456789"} {
		if !impl.NameOk(name) {
			t.Errorf("NameOk(%q) is false", name)
		}
	}
	for _, name := range []string{"", "A", "Joe", "a b", " a", "a ", "a-b", "a_b", "a/b", "a:b", "a`", "a{", "a?", "aA", "a\x00", "\x00", "\xff", "ä", "é@x", "a\n", "joe@x.org.net.", "abcdefghijklm"} {
		if impl.NameOk(name) {
			t.Errorf("NameOk(%q) is true", name)
		}
	}
}

func TestValuesThatAreKnown(t *testing.T) {
	for _, value := range []string{"A!", "!", "~", "key", "\"", "-1", "a", "!~!~!~!~!~!~"} {
		if !impl.ValueOk(value) {
			t.Errorf("ValueOk(%q) is false", value)
		}
	}
	for _, value := range []string{"", " ", "a b", " a", "a ", "\x7f", "a\x7f", "\x1f", "\x00", "ä", "\xff", "a\n", "!~!~!~!~!~!~!"} {
		if impl.ValueOk(value) {
			t.Errorf("ValueOk(%q) is true", value)
		}
	}
}

func TestIndexOfNames(t *testing.T) {
	for _, c := range []struct {
		name string
		want int
	}{
		{"", 0xe3}, {"a", 0xca}, {"abc", 0xba}, {"message digest", 0xf7},
	} {
		if got := impl.IndexOf(c.name); got != c.want {
			t.Errorf("IndexOf(%q) = %d; want %d", c.name, got, c.want)
		}
	}
	names := []string{"joe@x.org", "A", "\x00", "\xff", allBytes(), turning(64), turning(impl.MaxText + 1)}
	for n := range 2000 {
		names = append(names, "n"+impl.Decimal(n))
	}
	seen := make([]bool, 256)
	for _, name := range names {
		whole := sha256.Sum256([]byte(name))
		got := impl.IndexOf(name)
		if got != int(whole[0]) || got != int(impl.Digest(name)[0]) {
			t.Fatalf("IndexOf(%.20q) = %d; want %d", name, got, whole[0])
		}
		seen[got] = true
	}
	// So many names come to every index, so the greatest and the least were among them.
	if slices.Contains(seen, false) {
		t.Error("some index has no name")
	}
}

// bitByWords takes the bit at a level by dividing: at level 0 by 128, at level 7 by 1.
func bitByWords(index int, level int) int {
	for range 7 - level {
		index /= 2
	}
	return index % 2
}

func TestBitOfEveryIndex(t *testing.T) {
	for index := range 256 {
		back := 0
		for level := range 8 {
			bit := impl.BitOf(index, level)
			if bit != bitByWords(index, level) {
				t.Errorf("BitOf(%d, %d) = %d", index, level, bit)
			}
			back = 2*back + bit
		}
		if back != index {
			t.Errorf("the bits of %d are those of %d", index, back)
		}
	}
}

func TestBitOfTheEightLowestBitsAlone(t *testing.T) {
	for index := range 256 {
		for level := range 8 {
			want := bitByWords(index, level)
			for _, more := range []int{256, -256, 512, 65536, -65536, 1 << 32, -(1 << 32), 1 << 62, math.MaxInt - 255, math.MinInt} {
				if got := impl.BitOf(index+more, level); got != want {
					t.Errorf("BitOf(%d, %d) = %d; want %d", index+more, level, got, want)
				}
			}
		}
	}
	for level := range 8 {
		if impl.BitOf(-1, level) != 1 || impl.BitOf(math.MaxInt, level) != 1 || impl.BitOf(math.MinInt, level) != 0 {
			t.Errorf("BitOf of -1, the greatest and the least number at %d: %d, %d, %d", level, impl.BitOf(-1, level), impl.BitOf(math.MaxInt, level), impl.BitOf(math.MinInt, level))
		}
	}
}

func TestBitOfLevelsThatAreNone(t *testing.T) {
	for _, index := range []int{0, 1, 127, 128, 255, 256, -1, math.MaxInt, math.MinInt} {
		for _, level := range []int{-1, -2, -8, -57, 8, 9, 63, 64, 256, 1 << 32, math.MaxInt, math.MinInt} {
			if got := impl.BitOf(index, level); got != 0 {
				t.Errorf("BitOf(%d, %d) = %d", index, level, got)
			}
		}
	}
}

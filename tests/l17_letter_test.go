package tests

import (
	"math"
	"slices"
	"strings"
	"testing"

	"loop.example/g00284/impl"
)

func letterKinds() []int {
	return []int{1, 2, 3, 4, 5}
}

// wrongKindsOfLetters are none, though the lowest byte of some of them is one.
func wrongKindsOfLetters() []int {
	return []int{0, 6, -1, -2, -5, 7, 8, 100, 127, 128, 129, 255, 256, 256 + 1, 256 + 2, 256 + 5, -256 + 1, -256 + 4, -251, 65536 + 3, 1<<32 + 1, 1<<32 + 2, -1<<32 + 2, math.MaxInt, math.MaxInt - 1, math.MinInt, math.MinInt + 1, math.MinInt + 2}
}

// fromShard is whether letters of this kind are a shard's, to the coordinator.
func fromShard(kind int) bool {
	return kind == 2 || kind == 5
}

// letterOf is between the coordinator and the shard at this node; a vote has a Root of its own.
func letterOf(kind, node, epoch, try int) impl.Letter {
	x := impl.Letter{Kind: kind, To: node, Epoch: epoch, Try: try}
	if fromShard(kind) {
		x.From, x.To = node, 0
	}
	if kind == 2 {
		x.Root = rootAt((node + epoch + try) % 20)
	}
	return x
}

// rightTries are at the ends, about where a number takes a byte more, and ordinary ones.
func rightTries() []int {
	return []int{1, 2, 7, 63, 64, 126, 127, 128, 129, 254, 255, 256, 257, 383, 384, 500, 512, 895, 896, 998, 999, 1000}
}

// wrongTries are none, though some of their lowest bits are one.
func wrongTries() []int {
	return []int{0, -1, -2, 1001, 1002, 1023, 1024, 1024 + 1, 2000, -256, -255, -1000, -1024, -1023, 16384, 16384 + 1, 65536 + 1, 65536 + 1000, 1000000000, 1000000001, 1<<32 + 1, 1<<32 + 1000, -1<<32 + 1, math.MaxInt, math.MinInt, math.MinInt + 1}
}

// votedRoots are of any bytes.
func votedRoots() []string {
	return []string{rootAt(0), rootAt(7), strings.Repeat("\x00", 16), strings.Repeat("\xff", 16), strings.Repeat("\x80", 16), "0123456789abcdef", strings.Repeat("é", 8), "\x02\x01\x00\x01\x01\x02\x01\x00\x01\x01\x02\x01\x00\x01\x01\x02"}
}

// aLetterEach is of every kind and shard, with unlike epochs and tries.
func aLetterEach() []impl.Letter {
	var list []impl.Letter
	for _, kind := range letterKinds() {
		for node := 1; node <= 4; node++ {
			list = append(list, letterOf(kind, node, 1+(kind+node)%4, rightTries()[(5*kind+node)%22]))
		}
	}
	return list
}

func rightLetters() []impl.Letter {
	var list []impl.Letter
	for _, kind := range letterKinds() {
		for node := 1; node <= 4; node++ {
			for _, epoch := range rightEpochs() {
				for _, try := range rightTries() {
					list = append(list, letterOf(kind, node, epoch, try))
				}
			}
		}
	}
	for i, root := range votedRoots() {
		x := letterOf(2, 1+i%4, 1+i%3, 1+i)
		x.Root = root
		list = append(list, x)
	}
	return list
}

func withKind(x impl.Letter, kind int) impl.Letter {
	x.Kind = kind
	return x
}

func withEnds(x impl.Letter, from, to int) impl.Letter {
	x.From, x.To = from, to
	return x
}

func withEpoch(x impl.Letter, epoch int) impl.Letter {
	x.Epoch = epoch
	return x
}

func withTry(x impl.Letter, try int) impl.Letter {
	x.Try = try
	return x
}

func withRoot(x impl.Letter, root string) impl.Letter {
	x.Root = root
	return x
}

// rootWide is how many bytes the Root of a letter of this kind has.
func rootWide(kind int) int {
	if kind == 2 {
		return 16
	}
	return 0
}

func someRootSizes() []int {
	return []int{0, 1, 2, 8, 14, 15, 16, 17, 18, 31, 32, 33, 48, 255, 256, 256 + 16, 65536 + 16}
}

// wrongLetters have one thing that is not as it must be, each.
func wrongLetters() []impl.Letter {
	list := []impl.Letter{{}}
	for _, x := range aLetterEach() {
		for _, kind := range wrongKindsOfLetters() {
			list = append(list, withKind(x, kind))
		}
		for _, node := range []int{0, -1, 5, 6, 127, 128, 255, 256, 256 + 1, 256 + 4, -256 + 1, 1<<32 + 1, math.MaxInt, math.MinInt, math.MinInt + 1} {
			if fromShard(x.Kind) {
				list = append(list, withEnds(x, node, 0))
			} else {
				list = append(list, withEnds(x, 0, node))
			}
		}
		for _, node := range []int{-1, 1, 2, 4, 5, 255, 256, -256, 1 << 32, -1 << 32, math.MaxInt, math.MinInt} {
			if fromShard(x.Kind) {
				list = append(list, withEnds(x, x.From, node))
			} else {
				list = append(list, withEnds(x, node, x.To))
			}
		}
		list = append(list, withEnds(x, x.To, x.From), withEnds(x, 0, 0))
		for _, epoch := range wrongEpochs() {
			list = append(list, withEpoch(x, epoch))
		}
		for _, try := range wrongTries() {
			list = append(list, withTry(x, try))
		}
		for _, size := range someRootSizes() {
			if size != rootWide(x.Kind) {
				list = append(list, withRoot(x, strings.Repeat("r", size)))
			}
		}
	}
	return list
}

func letterOkByWords(x impl.Letter) bool {
	coordinator, shard := x.From, x.To
	if fromShard(x.Kind) {
		coordinator, shard = x.To, x.From
	}
	ends := coordinator == 0 && slices.Contains([]int{1, 2, 3, 4}, shard)
	return slices.Contains(letterKinds(), x.Kind) && ends && slices.Contains(rightEpochs(), x.Epoch) && x.Try >= 1 && x.Try <= 1000 && len(x.Root) == rootWide(x.Kind)
}

// withinLetter is what is sealed of a letter, right or not, whose Try is not below 0.
func withinLetter(x impl.Letter) string {
	return string([]byte{byte(x.Kind), byte(x.From), byte(x.To), byte(x.Epoch)}) + lengthByWords(x.Try) + x.Root
}

func sealedByWords(text string) string {
	return text + sumInBytes(text)
}

func letterTextByWords(x impl.Letter) string {
	return sealedByWords(withinLetter(x))
}

// tryByWords is the number with which this begins, and how many bytes it takes: none or two at most, as no Try takes more.
func tryByWords(text string) (int, int) {
	if text == "" {
		return 0, 0
	}
	if text[0] < 128 {
		return int(text[0]), 1
	}
	if len(text) < 2 || text[1] == 0 || text[1] >= 128 {
		return 0, 0
	}
	return int(text[0]) - 128 + 128*int(text[1]), 2
}

func readLetterByWords(text string) (impl.Letter, bool) {
	size := len(text) - 4
	if size < 5 || sumInBytes(text[:size]) != text[size:] {
		return impl.Letter{}, false
	}
	try, wide := tryByWords(text[4:size])
	x := impl.Letter{Kind: int(text[0]), From: int(text[1]), To: int(text[2]), Epoch: int(text[3]), Try: try, Root: text[4+wide : size]}
	if !letterOkByWords(x) {
		return impl.Letter{}, false
	}
	return x, true
}

func isLetterOk(t *testing.T, what string, x impl.Letter, want bool) {
	t.Helper()
	if got := impl.LetterOk(x); got != want {
		t.Errorf("%s: LetterOk of kind %d, from %d to %d, epoch %d, try %d, Root %.40x (%d bytes) is %v", what, x.Kind, x.From, x.To, x.Epoch, x.Try, x.Root, len(x.Root), got)
	}
}

// letterComesBack answers the text.
func letterComesBack(t *testing.T, x impl.Letter) string {
	t.Helper()
	text, ok := impl.LetterText(x)
	if text != letterTextByWords(x) || !ok {
		t.Errorf("LetterText of %v: %x, %v", x, text, ok)
	}
	if back, ok := impl.ReadLetter(text); back != x || !ok {
		t.Errorf("ReadLetter of %x: %v, %v", text, back, ok)
	}
	return text
}

func noLetterText(t *testing.T, what string, x impl.Letter) {
	t.Helper()
	if text, ok := impl.LetterText(x); text != "" || ok {
		t.Errorf("%s: LetterText of kind %d, from %d to %d, epoch %d, try %d, Root of %d bytes: %.60x, %v", what, x.Kind, x.From, x.To, x.Epoch, x.Try, len(x.Root), text, ok)
	}
}

func refusesLetter(t *testing.T, what string, text string) {
	t.Helper()
	if x, ok := impl.ReadLetter(text); ok || x != (impl.Letter{}) {
		t.Errorf("%s: ReadLetter of %.60x: %v, %v", what, text, x, ok)
	}
}

// readsLetterByWords is whether there is a letter, too: whatever bytes are taken are the LetterText of what is answered.
func readsLetterByWords(t *testing.T, text string) bool {
	t.Helper()
	want, right := readLetterByWords(text)
	if !right {
		refusesLetter(t, "what no letter has as its text", text)
		return false
	}
	x, ok := impl.ReadLetter(text)
	if x != want || !ok {
		t.Errorf("ReadLetter of %x: %v, %v; want %v", text, x, ok, want)
	}
	if again, ok := impl.LetterText(x); again != text || !ok {
		t.Errorf("ReadLetter of %x is written as %x, %v", text, again, ok)
	}
	return true
}

func TestLetterConstants(t *testing.T) {
	kinds := []int{impl.LtPrepare, impl.LtVote, impl.LtAbort, impl.LtCommit, impl.LtDone}
	if !slices.Equal(kinds, letterKinds()) || impl.MaxTry != 1000 {
		t.Error("a constant of chapter 17 is another one")
	}
}

// P17: letters come back from their bytes.
func TestLettersComeBack(t *testing.T) {
	for _, x := range rightLetters() {
		letterComesBack(t, x)
	}
	for _, kind := range letterKinds() {
		for try := 1; try <= impl.MaxTry; try++ {
			letterComesBack(t, letterOf(kind, 1+try%4, 1+try/4%4, try))
		}
	}
}

// P17: with one byte turned they are refused.
func TestLettersWithOneByteTurned(t *testing.T) {
	for _, x := range aLetterEach() {
		text := letterComesBack(t, x)
		for at := range len(text) {
			for by := 1; by < 256; by++ {
				refusesLetter(t, "one byte turned", turned(text, at, byte(by)))
			}
		}
	}
	for _, x := range rightLetters() {
		text := letterTextByWords(x)
		for at := range len(text) {
			for _, by := range []byte{1, 2, 4, 7, 0x80, 0xff} {
				refusesLetter(t, "one byte turned", turned(text, at, by))
			}
		}
	}
}

// P17: no two letters have one text.
func TestLetterTextsAreUnlike(t *testing.T) {
	seen := map[string]impl.Letter{}
	for _, x := range append(rightLetters(), aLetterEach()...) {
		text, _ := impl.LetterText(x)
		if other, there := seen[text]; there && other != x {
			t.Errorf("%v and %v have one text", x, other)
		}
		seen[text] = x
	}
}

func TestLetterOkOfFromAndTo(t *testing.T) {
	nodes := []int{-1, 0, 1, 4, 5, 2, 3, 6, -2, 128, 255, 256, 256 + 1, 256 + 4, -256, -256 + 1, 1 << 32, 1<<32 + 1, math.MaxInt, math.MinInt, math.MinInt + 1}
	for _, kind := range append(letterKinds(), wrongKindsOfLetters()...) {
		for _, from := range nodes {
			for _, to := range nodes {
				for _, size := range []int{0, 16} {
					x := impl.Letter{Kind: kind, From: from, To: to, Epoch: 2, Try: 7, Root: turning(size)}
					isLetterOk(t, "these ends", x, letterOkByWords(x))
				}
			}
		}
	}
	for _, kind := range letterKinds() {
		for node, want := range map[int]bool{-1: false, 0: false, 1: true, 2: true, 3: true, 4: true, 5: false} {
			isLetterOk(t, "this shard", letterOf(kind, node, 1, 1), want)
			x := letterOf(kind, node, 1, 1)
			isLetterOk(t, "the other way round", withEnds(x, x.To, x.From), false)
			isLetterOk(t, "both of them", withEnds(x, node, node), false)
		}
	}
}

func TestLetterOkOfKinds(t *testing.T) {
	for kind, want := range map[int]bool{-1: false, 0: false, 1: true, 2: true, 3: true, 4: true, 5: true, 6: false, 7: false} {
		isLetterOk(t, "this kind", letterOf(kind, 3, 2, 9), want)
	}
	for _, kind := range wrongKindsOfLetters() {
		for _, as := range letterKinds() {
			isLetterOk(t, "a kind that is none", withKind(letterOf(as, 1, 1, 1), kind), false)
		}
	}
	for kind := -600; kind <= 600; kind++ {
		for _, as := range letterKinds() {
			x := withKind(letterOf(as, 4, 4, 1000), kind)
			isLetterOk(t, "this kind", x, letterOkByWords(x))
		}
	}
}

func TestLetterOkOfEpochs(t *testing.T) {
	for _, kind := range letterKinds() {
		for epoch, want := range map[int]bool{0: false, 1: true, 2: true, 3: true, impl.MaxEpochs: true, impl.MaxEpochs + 1: false} {
			isLetterOk(t, "this epoch", letterOf(kind, 2, epoch, 3), want)
		}
		for _, epoch := range wrongEpochs() {
			isLetterOk(t, "an epoch that is none", withEpoch(letterOf(kind, 2, 1, 3), epoch), false)
		}
		for epoch := -600; epoch <= 600; epoch++ {
			isLetterOk(t, "this epoch", withEpoch(letterOf(kind, 2, 1, 3), epoch), epoch >= 1 && epoch <= 4)
		}
	}
}

func TestLetterOkOfTries(t *testing.T) {
	for _, kind := range letterKinds() {
		for try, want := range map[int]bool{0: false, 1: true, impl.MaxTry: true, impl.MaxTry + 1: false} {
			isLetterOk(t, "this try", withTry(letterOf(kind, 2, 3, 5), try), want)
		}
		for _, try := range wrongTries() {
			isLetterOk(t, "a try that is none", withTry(letterOf(kind, 2, 3, 5), try), false)
		}
		for try := -3000; try <= 3000; try++ {
			isLetterOk(t, "this try", withTry(letterOf(kind, 2, 3, 5), try), try >= 1 && try <= 1000)
		}
	}
}

// Numbers that are written in one byte are wrong if just that byte of them is right.
func TestLetterOkOfNumbersAlikeInTheirLowestByte(t *testing.T) {
	for _, x := range aLetterEach() {
		for _, more := range []int{256, -256, 512, -512, 65536, -65536, 1 << 31, -1 << 31, 1 << 32, -1 << 32, math.MinInt} {
			others := []impl.Letter{withKind(x, x.Kind+more), withEnds(x, x.From+more, x.To), withEnds(x, x.From, x.To+more), withEnds(x, x.From+more, x.To+more), withEpoch(x, x.Epoch+more)}
			for _, other := range others {
				isLetterOk(t, "a number alike in its lowest byte", other, false)
				noLetterText(t, "a number alike in its lowest byte", other)
			}
			tried := withTry(x, x.Try+more)
			isLetterOk(t, "a try alike in its lowest byte", tried, letterOkByWords(tried))
		}
	}
	isLetterOk(t, "256 tries more", letterOf(1, 1, 1, 1+256), true)
	isLetterOk(t, "256 tries less", letterOf(1, 1, 1, 1-256), false)
	isLetterOk(t, "256 tries more than there may be", letterOf(1, 1, 1, 1000+256), false)
	isLetterOk(t, "256 tries less than there may be", letterOf(1, 1, 1, 1000-256), true)
}

func TestLetterOkOfRoots(t *testing.T) {
	for _, x := range aLetterEach() {
		for size := range 70 {
			isLetterOk(t, "a Root of this width", withRoot(x, turning(size)), size == rootWide(x.Kind))
		}
		for _, size := range someRootSizes() {
			isLetterOk(t, "a Root of this width", withRoot(x, strings.Repeat("\x00", size)), size == rootWide(x.Kind))
		}
		for size, want := range map[int]bool{0: x.Kind != impl.LtVote, 1: false, impl.HashWide - 1: false, impl.HashWide: x.Kind == impl.LtVote, impl.HashWide + 1: false} {
			isLetterOk(t, "a Root at the edge", withRoot(x, strings.Repeat("r", size)), want)
		}
		for _, root := range votedRoots() {
			isLetterOk(t, "a Root of any bytes", withRoot(x, root), x.Kind == impl.LtVote)
		}
		for b := range 256 {
			all := strings.Repeat(string([]byte{byte(b)}), 16)
			isLetterOk(t, "one byte all over", withRoot(x, all), x.Kind == impl.LtVote)
			isLetterOk(t, "one byte alone", withRoot(x, all[:1]), false)
		}
		isLetterOk(t, "16 letters of two bytes each", withRoot(x, strings.Repeat("é", 16)), false)
	}
}

func TestLetterOkByWords(t *testing.T) {
	for _, x := range rightLetters() {
		isLetterOk(t, "a right letter", x, true)
	}
	for _, x := range wrongLetters() {
		isLetterOk(t, "one thing that is wrong", x, false)
	}
	isLetterOk(t, "nothing", impl.Letter{}, false)
	isLetterOk(t, "a kind alone", impl.Letter{Kind: impl.LtPrepare}, false)
	isLetterOk(t, "all that is wrong", impl.Letter{Kind: 9, From: 9, To: 9, Epoch: 9, Try: -9, Root: "9"}, false)
	for _, most := range []int{math.MaxInt, math.MinInt} {
		isLetterOk(t, "all at an end", impl.Letter{Kind: most, From: most, To: most, Epoch: most, Try: most, Root: rootAt(0)}, false)
	}
}

func TestLetterTextsThatAreKnown(t *testing.T) {
	for _, c := range []struct {
		letter impl.Letter
		want   string
	}{
		{impl.Letter{Kind: impl.LtPrepare, To: 1, Epoch: 1, Try: 1}, "\x01\x00\x01\x01\x01\xc8\x00\x5a\xf1"},
		{impl.Letter{Kind: impl.LtAbort, To: 4, Epoch: 4, Try: 1000}, "\x03\x00\x04\x04\xe8\x07\x89\xc0\x54\x25"},
		{impl.Letter{Kind: impl.LtCommit, To: 2, Epoch: 3, Try: 7}, "\x04\x00\x02\x03\x07\x2f\x4e\x1e\xdd"},
		{impl.Letter{Kind: impl.LtDone, From: 3, Epoch: 2, Try: 128}, "\x05\x03\x00\x02\x80\x01\xac\x29\x6b\x9b"},
		{impl.Letter{Kind: impl.LtVote, From: 4, Epoch: 4, Try: 1000, Root: "0123456789abcdef"}, "\x02\x04\x00\x04\xe8\x070123456789abcdef\x4a\x68\x1a\x21"},
		{impl.Letter{Kind: impl.LtVote, From: 1, Epoch: 1, Try: 127, Root: "\xf0\xf1\xf2\xf3\xf4\xf5\xf6\xf7\xf8\xf9\xfa\xfb\xfc\xfd\xfe\xff"}, "\x02\x01\x00\x01\x7f\xf0\xf1\xf2\xf3\xf4\xf5\xf6\xf7\xf8\xf9\xfa\xfb\xfc\xfd\xfe\xff\x88\x8a\xae\x5f"},
	} {
		if text, ok := impl.LetterText(c.letter); text != c.want || !ok {
			t.Errorf("LetterText of %v: %x, %v", c.letter, text, ok)
		}
		if x, ok := impl.ReadLetter(c.want); x != c.letter || !ok {
			t.Errorf("ReadLetter of %x: %v, %v", c.want, x, ok)
		}
	}
}

// Held against chapter 1's text of the Try, and chapter 2's seal.
func TestLetterTextsOfTheirParts(t *testing.T) {
	for _, x := range rightLetters() {
		try, ok := impl.VarText(x.Try)
		if !ok {
			t.Fatalf("the Try of %v has no text", x)
		}
		want, ok := impl.Sealed(string([]byte{byte(x.Kind), byte(x.From), byte(x.To), byte(x.Epoch)}) + try + x.Root)
		if !ok {
			t.Fatalf("%v is not sealed", x)
		}
		if text, ok := impl.LetterText(x); text != want || !ok {
			t.Errorf("LetterText of %v: %x, %v", x, text, ok)
		}
	}
}

func TestLetterTextRefuses(t *testing.T) {
	for _, x := range wrongLetters() {
		noLetterText(t, "one thing that is wrong", x)
	}
	noLetterText(t, "nothing", impl.Letter{})
	noLetterText(t, "a very long Root", withRoot(letterOf(2, 1, 1, 1), turning(1<<16)))
	for _, most := range []int{math.MaxInt, math.MinInt} {
		noLetterText(t, "all at an end", impl.Letter{Kind: most, From: most, To: most, Epoch: most, Try: most})
	}
}

func TestReadLetterOfCutsAndMore(t *testing.T) {
	for _, x := range rightLetters() {
		text := letterTextByWords(x)
		refusesLetter(t, "a byte shorter", text[:len(text)-1])
		refusesLetter(t, "a byte shorter ahead", text[1:])
		for _, more := range []string{"\x00", "\x01", "a", "\x80", "\xff"} {
			refusesLetter(t, "a byte longer", text+more)
			refusesLetter(t, "a byte longer ahead", more+text)
		}
	}
	for _, x := range aLetterEach() {
		text := letterTextByWords(x)
		for at := range len(text) {
			refusesLetter(t, "the beginning of a text", text[:at])
			refusesLetter(t, "the end of a text", text[at+1:])
		}
		for _, more := range []string{"\x00\x00", "\xff\xff\xff\xff", text, text[1:], turning(300)} {
			refusesLetter(t, "a text and more", text+more)
			refusesLetter(t, "more and a text", more+text)
		}
	}
}

// The seal is right here, but what stands within it is a byte or some shorter or longer than a letter.
func TestReadLetterOfOtherLengthsWithinTheSeal(t *testing.T) {
	for _, x := range rightLetters() {
		within := withinLetter(x)
		refusesLetter(t, "a byte shorter within", sealedByWords(within[:len(within)-1]))
		for _, more := range []string{"\x00", "\x01", "a", "\x80", "\xff"} {
			refusesLetter(t, "a byte longer within", sealedByWords(within+more))
		}
		readsLetterByWords(t, sealedByWords(within[1:]))
	}
	for _, x := range aLetterEach() {
		within := withinLetter(x)
		for at := range len(within) {
			refusesLetter(t, "the beginning of a letter", sealedByWords(within[:at]))
			readsLetterByWords(t, sealedByWords(within[at+1:]))
			readsLetterByWords(t, sealedByWords(within[:at]+within[at+1:]))
			readsLetterByWords(t, sealedByWords(within[:at]+"\x00"+within[at:]))
			readsLetterByWords(t, sealedByWords(within[:at]+"\x01"+within[at:]))
		}
		for _, more := range []string{"\x00\x00", rootAt(3), rootAt(3) + "\x00", within, sumInBytes(within), turning(impl.MaxText - len(within)), turning(impl.MaxText + 1 - len(within))} {
			refusesLetter(t, "a letter and more within", sealedByWords(within+more))
		}
	}
}

func TestReadLetterOfEveryFirstBytes(t *testing.T) {
	taken := 0
	for _, x := range aLetterEach() {
		within := withinLetter(x)
		for at := range 4 {
			for b := range 256 {
				text := sealedByWords(within[:at] + string([]byte{byte(b)}) + within[at+1:])
				if readsLetterByWords(t, text) && b > 5 {
					t.Errorf("%x is a letter with a byte %d at %d", text, b, at)
				}
			}
		}
	}
	for four := range 7 * 7 * 7 * 7 {
		begin := string([]byte{byte(four % 7), byte(four / 7 % 7), byte(four / 49 % 7), byte(four / 343)})
		for _, rest := range []string{"\x01", "\xe8\x07", "\x01" + rootAt(5), "\xe8\x07" + rootAt(6)} {
			if readsLetterByWords(t, sealedByWords(begin+rest)) {
				taken++
			}
		}
	}
	if taken != 5*4*4*2 {
		t.Errorf("%d letters are taken of all that these bytes make", taken)
	}
}

func TestReadLetterOfTriesInLongerForms(t *testing.T) {
	for _, x := range rightLetters() {
		begin, try := withinLetter(x)[:4], lengthByWords(x.Try)
		for _, longer := range longerForms(try) {
			refusesLetter(t, "a longer form of the Try", sealedByWords(begin+longer+x.Root))
		}
	}
	for _, x := range aLetterEach() {
		for _, try := range []string{"\x81\x00", "\xff\x00", "\xe8\x87\x00", "\x81\x80\x80\x80\x80\x00", "\x81\x80\x80\x80\x10", "\x80", "\x80\x80\x80\x80\x80", "\xff\xff\xff\xff\xff\xff\xff\xff\xff\x01", strings.Repeat("\x80", 100)} {
			refusesLetter(t, "a Try that is none", sealedByWords(withinLetter(x)[:4]+try+x.Root))
		}
	}
}

func TestReadLetterOfTries(t *testing.T) {
	for _, x := range aLetterEach() {
		begin := withinLetter(x)[:4]
		for try := range 3000 {
			got, ok := impl.ReadLetter(sealedByWords(begin + lengthByWords(try) + x.Root))
			want := withTry(x, try)
			if try < 1 || try > 1000 {
				want = impl.Letter{}
			}
			if got != want || ok != (want.Try == try && try > 0) {
				t.Errorf("ReadLetter of the try %d in %v: %v, %v", try, x, got, ok)
			}
		}
		refusesLetter(t, "the try 0", sealedByWords(begin+"\x00"+x.Root))
		refusesLetter(t, "a try more than there may be", sealedByWords(begin+"\xe9\x07"+x.Root))
		for _, try := range []int{1024 + 1, 16383, 16384, 16384 + 1, 65536 + 1, 128*128*128 - 1} {
			refusesLetter(t, "a try past all", sealedByWords(begin+lengthByWords(try)+x.Root))
		}
		for _, try := range []string{"\x80\x94\xeb\xdc\x03", "\x81\x94\xeb\xdc\x03"} {
			refusesLetter(t, "a try at the end of all numbers", sealedByWords(begin+try+x.Root))
		}
		refusesLetter(t, "no try", sealedByWords(begin+x.Root[:0]))
	}
}

func TestReadLetterOfRoots(t *testing.T) {
	for _, x := range aLetterEach() {
		begin := withinLetter(withRoot(x, ""))
		for size := range 70 {
			text := sealedByWords(begin + turning(size))
			if readsLetterByWords(t, text) != (size == rootWide(x.Kind)) {
				t.Errorf("a letter of kind %d with a Root of %d bytes", x.Kind, size)
			}
		}
		for _, root := range votedRoots() {
			text := sealedByWords(begin + root)
			got, ok := impl.ReadLetter(text)
			if x.Kind == impl.LtVote && (got != withRoot(x, root) || !ok) {
				t.Errorf("ReadLetter of a vote for %x: %v, %v", root, got, ok)
			}
			if x.Kind != impl.LtVote {
				refusesLetter(t, "a Root where there is none", text)
			}
		}
		if x.Kind == impl.LtVote {
			refusesLetter(t, "no Root where there is one", sealedByWords(begin))
		}
		for _, size := range someRootSizes() {
			if size != rootWide(x.Kind) {
				refusesLetter(t, "a Root of another width", sealedByWords(begin+strings.Repeat("r", size)))
			}
		}
	}
}

func TestReadLetterOfWhatIsNotSealed(t *testing.T) {
	for _, x := range rightLetters() {
		within, text := withinLetter(x), letterTextByWords(x)
		sum := sumInBytes(within)
		refusesLetter(t, "what is not sealed", within)
		refusesLetter(t, "a sum of bytes 0", within+"\x00\x00\x00\x00")
		refusesLetter(t, "a sum of bytes 255", within+"\xff\xff\xff\xff")
		refusesLetter(t, "the sum ahead", sum+within)
		refusesLetter(t, "the sum twice", text+sum)
		refusesLetter(t, "sealed twice", sealedByWords(text))
		if backwards := string([]byte{sum[3], sum[2], sum[1], sum[0]}); backwards != sum {
			refusesLetter(t, "the sum the other way round", within+backwards)
		}
		refusesLetter(t, "another letter's sum", within+sumInBytes(within+"\x00"))
	}
	for _, x := range aLetterEach() {
		frame, ok := impl.Frame(withinLetter(x))
		if !ok {
			t.Fatalf("%v has no frame", x)
		}
		refusesLetter(t, "a frame", frame)
	}
}

func TestReadLetterOfNoLetterAtAll(t *testing.T) {
	refusesLetter(t, "no text", "")
	refusesLetter(t, "nothing sealed", "\xff\xff\xff\xff")
	for size := range 60 {
		refusesLetter(t, "bytes 0 sealed", sealedByWords(strings.Repeat("\x00", size)))
		refusesLetter(t, "bytes 255 sealed", sealedByWords(strings.Repeat("\xff", size)))
		refusesLetter(t, "bytes 128 sealed", sealedByWords(strings.Repeat("\x80", size)))
		readsLetterByWords(t, sealedByWords(strings.Repeat("\x01", size)))
		readsLetterByWords(t, sealedByWords(turning(size)))
		refusesLetter(t, "bytes 0", strings.Repeat("\x00", size))
		readsLetterByWords(t, turning(size))
	}
	for _, size := range []int{1000, impl.MaxText, impl.MaxText + 1, impl.MaxText + 4, 10 * impl.MaxText} {
		refusesLetter(t, "a long text", turning(size))
		refusesLetter(t, "a long text sealed", sealedByWords(turning(size)))
	}
	head := impl.Head{House: 1, Epoch: 1, Root: rootAt(0)}
	refusesLetter(t, "a head's text", headTextByWords(head))
	refusesLetter(t, "a head's text sealed", sealedByWords(headTextByWords(head)))
	refusesLetter(t, "a change's text sealed", sealedByWords(changeTextByWords(changeOf(3, "ann", "k1"))))
}

func TestReadLetterOfAllShortTexts(t *testing.T) {
	letters := "\x00\x01\x02\x04\x05\x80"
	texts := []string{""}
	taken := 0
	for range 7 {
		var longer []string
		for _, text := range texts {
			if readsLetterByWords(t, sealedByWords(text)) {
				taken++
			}
			for i := range len(letters) {
				longer = append(longer, text+letters[i:i+1])
			}
		}
		texts = longer
	}
	if taken < 50 {
		t.Errorf("just %d of the short texts are those of letters", taken)
	}
}

// drawnWithin is what is sealed of a letter that is often right, and then sometimes spoilt a little.
func drawnWithin(state *uint64) string {
	x := letterOf(1+drawn(state, 5), 1+drawn(state, 4), 1+drawn(state, 4), 1+drawn(state, 1000))
	switch drawn(state, 10) {
	case 0:
		x.Kind = drawn(state, 8)
	case 1:
		x.From = drawn(state, 6)
	case 2:
		x.To = drawn(state, 6)
	case 3:
		x.Epoch = drawn(state, 7)
	case 4:
		x.Try = drawn(state, 1200)
	case 5:
		x.Root = turning(drawn(state, 20))
	}
	text := withinLetter(x)
	for range drawn(state, 3) {
		at := drawn(state, len(text))
		text = text[:at] + string([]byte{byte(drawn(state, 256))}) + text[min(len(text), at+drawn(state, 3)):]
	}
	return text
}

// Whatever bytes ReadLetter takes are the LetterText of what it answers.
func TestReadLetterOfDrawnTexts(t *testing.T) {
	state := uint64(17)
	taken, refused := 0, 0
	for range 30000 {
		text := sealedByWords(drawnWithin(&state))
		if drawn(&state, 8) == 0 {
			text = turned(text, drawn(&state, len(text)), byte(1+drawn(&state, 255)))
		}
		if readsLetterByWords(t, text) {
			taken++
		} else {
			refused++
		}
	}
	if taken < 3000 || refused < 3000 {
		t.Errorf("%d of the drawn texts are taken, %d refused", taken, refused)
	}
}

func TestLettersAnswerNewMemory(t *testing.T) {
	for _, x := range aLetterEach() {
		x.Root = strings.Clone(x.Root)
		text, _ := impl.LetterText(x)
		noneShares(t, "a text and its letter", []string{text}, []string{x.Root})
		again, _ := impl.LetterText(x)
		noneShares(t, "two texts of one letter", []string{text}, []string{again})
		read, _ := impl.ReadLetter(text)
		noneShares(t, "what was read and its text", []string{read.Root}, []string{text, x.Root})
		other, _ := impl.ReadLetter(text)
		noneShares(t, "two answers of ReadLetter", []string{read.Root}, []string{other.Root})
	}
}

// Every call answers from what it is given alone: again the same, whatever was written or refused between.
func TestLettersKeepNothing(t *testing.T) {
	letters := aLetterEach()
	for i := range 200 {
		x, other := letters[i%len(letters)], letters[(7*i+3)%len(letters)]
		text := letterComesBack(t, x)
		letterComesBack(t, other)
		refusesLetter(t, "a torn text between", text[:len(text)-1])
		noLetterText(t, "a wrong letter between", withTry(x, 1001))
		isLetterOk(t, "a wrong letter between", withEpoch(x, 5), false)
		if again := letterComesBack(t, x); again != text {
			t.Errorf("LetterText of %v again: %x; was %x", x, again, text)
		}
		isLetterOk(t, "again", x, true)
	}
}

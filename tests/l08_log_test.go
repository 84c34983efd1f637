package tests

import (
	"math"
	"slices"
	"strings"
	"testing"

	"loop.example/g00284/impl"
)

// logNames are right ones: of the least and the greatest size, and some that are nearly NameNew.
func logNames() []string {
	return []string{"a", "log", "shard", "z", "\x00", "\xff", "ne", "news", "New", "NEW", "new\x00", " new", "wen", "1234567", "12345678", "new45678"}
}

func wrongLogNames() []string {
	return []string{"", "new", "123456789", "new456789", "1234567890", turning(264), turning(300)}
}

// wrongTexts are those without a frame.
func wrongTexts() []string {
	return []string{"", turning(9001), turning(9002), turning(20000), turning(20001)}
}

// textLists have no text, one, many, and as many bytes as there may be.
func textLists() [][]string {
	full, _ := fullFile()
	return [][]string{nil, {}, {"x"}, {"one"}, {"\x00"}, {"a", "a", "a"}, {"one", "two", "three"}, smallRecords(), {turning(9000)}, {turning(9000), "x"}, slices.Repeat([]string{"y"}, 3333), full}
}

func keptFile(name, text string) impl.File {
	return file(name, text, len(text))
}

func keptLog(name string, texts ...string) impl.File {
	return keptFile(name, framesByWords(texts))
}

// isLogActs wants just these acts.
func isLogActs(t *testing.T, what string, got []impl.Act, ok bool, want ...impl.Act) {
	t.Helper()
	if !ok || !slices.Equal(got, want) {
		t.Errorf("%s: %.200v, %v; want %.200v", what, got, ok, want)
	}
}

func noActs(t *testing.T, what string, got []impl.Act, ok bool) {
	t.Helper()
	if ok || len(got) > 0 {
		t.Errorf("%s: %.100v, %v; want none", what, got, ok)
	}
}

func hasTexts(t *testing.T, what string, d impl.Disk, name string, want []string) {
	t.Helper()
	was := copyOf(d)
	if got := impl.LogTexts(d, name); !slices.Equal(got, want) {
		t.Errorf("%s: LogTexts of %.20q has %d texts, %.60q; want %d, %.60q", what, name, len(got), got, len(want), want)
	}
	if !sameDisk(d, was) {
		t.Errorf("%s: LogTexts writes into its disk", what)
	}
}

// anewByWords is of a right name and of texts that have frames.
func anewByWords(d impl.Disk, name string, list []string) []impl.Act {
	var acts []impl.Act
	if placeOf(d, "new") >= 0 {
		acts = append(acts, impl.Act{Kind: 4, Name: "new"})
	}
	return append(acts, impl.Act{Kind: 1, Name: "new", Text: framesByWords(list)}, impl.Act{Kind: 2, Name: "new"}, impl.Act{Kind: 3, Name: "new", To: name})
}

// logDisks are right ones, with and without a file "log" and a file NameNew, and with all places taken.
func logDisks() []impl.Disk {
	log := keptLog("log", "one", "two", turning(130))
	return append(rightDisks(),
		diskOf(log),
		diskOf(keptFile("log", "")),
		diskOf(keptFile("log", log.Text+"\x05torn")),
		diskOf(log, keptFile("new", "")),
		diskOf(log, keptLog("new", "left", "behind")),
		diskOf(log, file("new", frameByWords("left")[:4], 0)),
		diskOf(log, file("new", framesByWords([]string{"left", "behind"}), 9)),
		diskOf(keptLog("coord", "c"), log, keptFile("new", "junk"), keptLog("shard", "s", "s"), file("zz", "12345", 2)),
		diskOf(keptFile("new", turning(20000))),
		diskOf(append(filesFrom(28).Files, log, keptLog("new", "x"))...),
	)
}

func TestLogConstants(t *testing.T) {
	if impl.NameNew != "new" {
		t.Error("a name is not the document's")
	}
}

func TestLogActsBytes(t *testing.T) {
	acts, ok := impl.LogActs("log", "one")
	if !ok || len(acts) != 2 {
		t.Fatalf("LogActs: %d acts, %v", len(acts), ok)
	}
	if a := acts[0]; a.Kind != 1 || a.Name != "log" || a.Text != "\x03\x19\x0e\xcf\x17one" || a.To != "" {
		t.Errorf("the first act is %v", a)
	}
	if a := acts[1]; a.Kind != 2 || a.Name != "log" || a.Text != "" || a.To != "" {
		t.Errorf("the second act is %v", a)
	}
}

func TestLogActsOfNamesAndTexts(t *testing.T) {
	texts := smallRecords()
	for _, size := range recordSizes() {
		texts = append(texts, turning(size))
	}
	for _, name := range logNames() {
		for _, text := range texts {
			acts, ok := impl.LogActs(name, text)
			isLogActs(t, "LogActs", acts, ok, addAct(name, frameByWords(text)), keepAct(name))
		}
		for _, text := range wrongTexts() {
			acts, ok := impl.LogActs(name, text)
			noActs(t, "LogActs of a wrong text", acts, ok)
		}
	}
	for size := range 12 {
		acts, ok := impl.LogActs(turning(size), "x")
		if right := size >= 1 && size <= impl.MaxFileName; ok != right || (len(acts) == 2) != right {
			t.Errorf("LogActs of a name of %d bytes: %d acts, %v", size, len(acts), ok)
		}
	}
	for _, size := range []int{0, 1, impl.MaxRecord - 1, impl.MaxRecord, impl.MaxRecord + 1} {
		acts, ok := impl.LogActs("log", turning(size))
		if right := size >= 1 && size <= 9000; ok != right || (len(acts) == 2) != right {
			t.Errorf("LogActs of a text of %d bytes: %d acts, %v", size, len(acts), ok)
		}
	}
}

func TestLogActsOfWrongNames(t *testing.T) {
	for _, name := range wrongLogNames() {
		for _, text := range append(wrongTexts(), "x", "one", turning(9000)) {
			acts, ok := impl.LogActs(name, text)
			noActs(t, "LogActs of a wrong name", acts, ok)
		}
	}
}

// LogActs is not told of a disk: what has no room there is refused when it is done, and leaves the disk as it was.
func TestLogActsWithoutRoom(t *testing.T) {
	_, full := fullFile()
	for _, d := range []impl.Disk{diskOf(keptFile("log", full)), diskOf(keptFile("log", full[:20000-7])), filesFrom(30)} {
		acts, ok := impl.LogActs("log", "one")
		isLogActs(t, "LogActs without room", acts, ok, addAct("log", frameByWords("one")), keepAct("log"))
		if after, done := impl.DoActs(d, acts); done != 0 || !sameDisk(after, d) {
			t.Errorf("%d acts are done without room", done)
		}
	}
	acts, _ := impl.LogActs("log", "one")
	if _, done := impl.DoActs(diskOf(keptFile("log", full[:20000-8])), acts); done != 2 {
		t.Errorf("%d acts are done with just enough room", done)
	}
}

func TestLogTextsOfFiles(t *testing.T) {
	for _, name := range append(logNames(), "new") {
		for _, list := range textLists() {
			text := framesByWords(list)
			for _, kept := range []int{0, len(text) / 2, len(text)} {
				hasTexts(t, "one file", diskOf(file(name, text, kept)), name, list)
			}
		}
	}
	d := diskOf(keptLog("a", "1", "2"), keptFile("b", ""), keptLog("c", "3"), keptLog("new", "4", "5", "6"))
	for name, want := range map[string][]string{"a": {"1", "2"}, "b": nil, "c": {"3"}, "new": {"4", "5", "6"}, "d": nil} {
		hasTexts(t, "some files", d, name, want)
	}
}

func TestLogTextsWithoutTheFile(t *testing.T) {
	d := diskOf(keptLog("log", "one"), keptLog("logs", "two"))
	for _, name := range []string{"", "lo", "Log", "log\x00", "l", "new", "logss", "logslogs", "logslogsl", turning(300)} {
		hasTexts(t, "without the file", d, name, nil)
		hasTexts(t, "an empty disk", impl.Disk{}, name, nil)
	}
	hasTexts(t, "the file", d, "log", []string{"one"})
}

// A disk that is not right has no texts, wherever its fault is, and however right the file is.
func TestLogTextsOfWrongDisks(t *testing.T) {
	log := keptLog("log", "one", "two")
	wrong := []impl.Disk{
		diskOf(file("a", "1", 2), log),
		diskOf(file("a", "1", -1), log),
		diskOf(file("", "", 0), log),
		diskOf(log, log),
		diskOf(log, keptFile("a", "")),
		diskOf(log, keptFile("m", turning(20001))),
		diskOf(log, keptFile("morethan8", "")),
		diskOf(file("log", log.Text, len(log.Text)+1)),
		diskOf(file("log", log.Text, -1)),
		diskOf(file("log", log.Text, math.MaxInt)),
		diskOf(keptFile("log", log.Text+turning(20001-len(log.Text)))),
		diskOf(append(filesFrom(30).Files, log)...),
	}
	for i, d := range wrong {
		if diskOkByWords(d) {
			t.Fatalf("disk %d is right", i)
		}
		hasTexts(t, "a wrong disk", d, "log", nil)
	}
	for _, d := range wrongDisks() {
		for _, name := range []string{"log", "a", "b", "", "new", "f00", "123456789"} {
			hasTexts(t, "a wrong disk", d, name, nil)
		}
	}
	hasTexts(t, "a right one", diskOf(append(filesFrom(29).Files, log)...), "log", []string{"one", "two"})
	hasTexts(t, "a file of MaxText bytes", diskOf(keptFile("log", log.Text+turning(20000-len(log.Text)))), "log", []string{"one", "two"})
}

// Of a torn file the texts ahead of the tear come, and no other.
func TestLogTextsOfTornFiles(t *testing.T) {
	list := []string{"one", turning(150), "\x00", turning(127), "last"}
	whole := framesByWords(list)
	for cut := range len(whole) + 1 {
		want, _ := unframeByWords(whole[:cut])
		hasTexts(t, "torn at its end", diskOf(keptFile("log", whole[:cut])), "log", want)
	}
	for at := range list {
		ahead, torn, behind := framesByWords(list[:at]), frameByWords(list[at]), framesByWords(list[at+1:])
		for cut := 1; cut < len(torn); cut++ {
			hasTexts(t, "torn in the middle", diskOf(keptFile("log", ahead+torn[:cut]+behind+frameByWords("more"))), "log", list[:at])
		}
		for place := range len(torn) {
			hasTexts(t, "with a turned byte", diskOf(keptFile("log", ahead+turned(torn, place, 1)+behind)), "log", list[:at])
		}
	}
	for what, piece := range brokenPieces() {
		hasTexts(t, what, diskOf(keptFile("log", piece+whole)), "log", nil)
		hasTexts(t, what, diskOf(keptFile("log", whole+piece)), "log", list)
		hasTexts(t, what, diskOf(keptFile("log", whole+piece+whole)), "log", list)
	}
}

func TestAnewActsBytes(t *testing.T) {
	frames := "\x03\x19\x0e\xcf\x17one\x01\x81\xa5\xc7\xdc\x00"
	behind := []impl.Act{{Kind: 1, Name: "new", Text: frames}, {Kind: 2, Name: "new"}, {Kind: 3, Name: "new", To: "log"}}
	acts, ok := impl.AnewActs(diskOf(keptLog("log", "old")), "log", []string{"one", "\x00"})
	isLogActs(t, "AnewActs without a file NameNew", acts, ok, behind...)
	acts, ok = impl.AnewActs(diskOf(keptLog("log", "old"), keptFile("new", "junk")), "log", []string{"one", "\x00"})
	isLogActs(t, "AnewActs with a file NameNew", acts, ok, append([]impl.Act{{Kind: 4, Name: "new"}}, behind...)...)
	acts, ok = impl.AnewActs(impl.Disk{}, "log", nil)
	isLogActs(t, "AnewActs of no text", acts, ok, impl.Act{Kind: 1, Name: "new"}, impl.Act{Kind: 2, Name: "new"}, impl.Act{Kind: 3, Name: "new", To: "log"})
}

func TestAnewActsByWords(t *testing.T) {
	for _, d := range logDisks() {
		for _, name := range logNames() {
			for _, list := range textLists() {
				was, wasList := copyOf(d), slices.Clone(list)
				acts, ok := impl.AnewActs(d, name, list)
				isLogActs(t, "AnewActs", acts, ok, anewByWords(d, name, list)...)
				if !sameDisk(d, was) || !slices.Equal(list, wasList) {
					t.Fatal("AnewActs writes into an argument")
				}
			}
		}
	}
}

func TestAnewActsOfWrongNames(t *testing.T) {
	for _, d := range logDisks() {
		for _, name := range wrongLogNames() {
			for _, list := range [][]string{nil, {"x"}, {"one", "two"}, {""}} {
				acts, ok := impl.AnewActs(d, name, list)
				noActs(t, "AnewActs of a wrong name", acts, ok)
			}
		}
	}
}

// A text without a frame is found at whichever place it stands.
func TestAnewActsOfWrongTexts(t *testing.T) {
	for _, d := range logDisks() {
		for _, wrong := range wrongTexts() {
			for at := range 4 {
				list := slices.Insert([]string{"one", turning(9000), "three"}, at, wrong)
				acts, ok := impl.AnewActs(d, "log", list)
				noActs(t, "AnewActs of a wrong text", acts, ok)
			}
			acts, ok := impl.AnewActs(d, "log", []string{wrong})
			noActs(t, "AnewActs of a wrong text alone", acts, ok)
		}
	}
}

func TestAnewActsOfWrongDisks(t *testing.T) {
	log, left := keptLog("log", "one"), keptLog("new", "left")
	wrong := append(wrongDisks(),
		diskOf(file("a", "1", 2), log),
		diskOf(file("a", "1", 2), log, left),
		diskOf(left, log),
		diskOf(left, left),
		diskOf(log, file("new", "12", 3)),
		diskOf(log, left, keptFile("zz", turning(20001))),
		diskOf(append(filesFrom(29).Files, log, left)...),
	)
	for i, d := range wrong {
		for _, name := range append(wrongLogNames(), "log", "a") {
			for _, list := range [][]string{nil, {"x"}, {"one", "two"}, {""}} {
				if acts, ok := impl.AnewActs(d, name, list); ok || len(acts) > 0 {
					t.Errorf("AnewActs of wrong disk %d, %.20q: %d acts, %v", i, name, len(acts), ok)
				}
			}
		}
	}
}

// isAnew wants the file to have just these texts, NameNew to be gone, and all other files to stay.
func isAnew(t *testing.T, was, is impl.Disk, name string, list []string) {
	t.Helper()
	var want []impl.File
	for _, f := range was.Files {
		if f.Name != name && f.Name != "new" {
			want = append(want, f)
		}
	}
	want = append(want, keptLog(name, list...))
	slices.SortFunc(want, func(a, b impl.File) int { return strings.Compare(a.Name, b.Name) })
	if !slices.Equal(is.Files, want) {
		t.Errorf("laid anew, %.20q is on %.200v; want %.200v", name, is, want)
	}
	hasTexts(t, "laid anew", is, name, list)
	hasTexts(t, "laid anew", is, "new", nil)
}

func TestWhatAnewActsLeave(t *testing.T) {
	for _, d := range logDisks() {
		for _, name := range logNames() {
			for _, list := range textLists() {
				acts, ok := impl.AnewActs(d, name, list)
				after, done := impl.DoActs(d, acts)
				if len(d.Files) == 30 && placeOf(d, "new") < 0 {
					// There is no room for one more file, not even for a while.
					if !ok || done != 0 || !sameDisk(after, d) {
						t.Errorf("%d acts are done on a full disk", done)
					}
					continue
				}
				if !ok || done != len(acts) {
					t.Fatalf("%d acts of %d are done, %v", done, len(acts), ok)
				}
				isAnew(t, d, after, name, list)
			}
		}
	}
}

// More texts than a file can have are acts, too, as each has its frame; they are refused when they are done, and the file stays.
func TestAnewActsOfMoreThanAFileHas(t *testing.T) {
	full, _ := fullFile()
	for _, list := range [][]string{append(slices.Clone(full), "x"), slices.Repeat([]string{turning(9000)}, 3), slices.Repeat([]string{"y"}, 3334), slices.Repeat([]string{"y"}, 50000)} {
		for _, d := range []impl.Disk{diskOf(keptLog("log", "old")), diskOf(keptLog("log", "old"), keptFile("new", "junk"))} {
			acts, ok := impl.AnewActs(d, "log", list)
			if want := anewByWords(d, "log", list); !ok || !slices.Equal(acts, want) {
				t.Fatalf("AnewActs of %d texts: %d acts, %v", len(list), len(acts), ok)
			}
			after, done := impl.DoActs(d, acts)
			if done != len(acts)-3 {
				t.Errorf("%d acts of %d are done", done, len(acts))
			}
			hasTexts(t, "too many texts", after, "log", []string{"old"})
		}
	}
}

// powerLefts tell of each place of a disk of so many files: all or nothing, all but this one, this one alone, and so many bytes of it.
func powerLefts(count, at, size int) [][]int {
	lists := [][]int{nil, slices.Repeat([]int{math.MinInt}, count), slices.Repeat([]int{math.MaxInt}, count), slices.Repeat([]int{0}, count)}
	step := 1 + size/300
	for left := -1; left <= size+1; left += step {
		alone := make([]int, count)
		alone[at] = left
		others := slices.Repeat([]int{math.MaxInt}, count)
		others[at] = left
		lists = append(lists, alone, others, slices.Repeat([]int{left}, count), alone[:at+1])
	}
	for left := max(0, size-8); left <= size; left++ {
		lists = append(lists, slices.Repeat([]int{left}, count))
	}
	return lists
}

// placeWith is where the file stands, or will.
func placeWith(d impl.Disk, name string) int {
	at := 0
	for _, f := range d.Files {
		if f.Name < name {
			at++
		}
	}
	return at
}

// writesDown is promise 8 of LogActs: what was kept is read, and the new text behind it whole or not at all.
func writesDown(t *testing.T, d impl.Disk, name string, text string) {
	t.Helper()
	acts, ok := impl.LogActs(name, text)
	if !ok {
		t.Fatalf("LogActs of %q is false", name)
	}
	old, _ := impl.FileAt(d, name)
	ahead := impl.LogTexts(d, name)
	with := append(slices.Clone(ahead), text)
	for whole := range 3 {
		for _, left := range powerLefts(len(d.Files)+1, placeWith(d, name), len(old)+len(acts[0].Text)) {
			cut, ok := impl.CutActs(d, acts, whole, left)
			if !ok {
				t.Fatalf("CutActs with %d whole is false", whole)
			}
			got := impl.LogTexts(cut, name)
			has := slices.Equal(got, with)
			if !has && !slices.Equal(got, ahead) || !has && whole == 2 || has && whole == 0 {
				t.Fatalf("with %d whole, left with %.60v, %d texts are read; %d were there", whole, left, len(got), len(ahead))
			}
			othersStay(t, d, cut, name)
			if f, _ := impl.FileAt(cut, name); has != (f == old+acts[0].Text) {
				t.Fatalf("with %d whole, left with %.60v, the new text is read: %v, of %d bytes", whole, left, has, len(f))
			}
		}
	}
}

// othersStay wants at least what was kept of all files but this one and NameNew.
func othersStay(t *testing.T, was, is impl.Disk, but string) {
	t.Helper()
	for _, f := range was.Files {
		if f.Name == but || f.Name == "new" {
			continue
		}
		if text, ok := impl.FileAt(is, f.Name); !ok || !strings.HasPrefix(text, f.Text[:f.Kept]) || !strings.HasPrefix(f.Text, text) {
			t.Fatalf("%.20q is another file", f.Name)
		}
	}
}

// powerDisks have the file as the list tells it, alone and among others.
func powerDisks(list []string) []impl.Disk {
	log := keptLog("log", list...)
	return []impl.Disk{
		diskOf(log),
		diskOf(keptLog("a", "1", "2"), log, keptFile("new", "junk"), file("zz", "12345", 2)),
		diskOf(log, keptLog("new", "left", "behind")),
		diskOf(file("a", "123", 1), file("b", "", 0), log),
		diskOf(append(filesFrom(29).Files, log)...),
	}
}

func TestWhatIsWrittenDownIsReadAgain(t *testing.T) {
	for _, list := range [][]string{nil, {"one"}, {"\x00"}, {"one", "one", "two"}, {turning(127), turning(128)}, smallRecords()[:9]} {
		for _, text := range []string{"x", "one", "\x00", "\xff\xff\xff\xff", frameByWords("one"), turning(127), turning(128), turning(300)} {
			for _, d := range powerDisks(list) {
				writesDown(t, d, "log", text)
			}
		}
	}
	for _, text := range []string{"x", turning(9000)} {
		writesDown(t, diskOf(keptLog("log", turning(9000), "two")), "log", text)
		writesDown(t, impl.Disk{}, "log", text)
		writesDown(t, diskOf(keptFile("log", "")), "12345678", text)
		writesDown(t, filesFrom(29), "log", text)
	}
}

// What was not kept may go, but never what was kept ahead of it.
func TestWhatIsKeptIsReadWhateverElseGoes(t *testing.T) {
	list := []string{"one", "two", turning(140), "\x00", "five"}
	text := framesByWords(list)
	acts, _ := impl.LogActs("log", "more")
	for kept := range len(text) + 1 {
		sure, _ := unframeByWords(text[:kept])
		d := diskOf(file("log", text, kept))
		for whole := range 3 {
			for left := 0; left <= len(text)+10; left += 3 {
				cut, ok := impl.CutActs(d, acts, whole, []int{left})
				got := impl.LogTexts(cut, "log")
				if !ok || len(got) < len(sure) || !slices.Equal(got, append(slices.Clone(list), "more")[:len(got)]) {
					t.Fatalf("%d kept, %d whole, left with %d: %d texts", kept, whole, left, len(got))
				}
				if whole == 2 && len(got) != 6 {
					t.Fatalf("%d kept, all whole, left with %d: %d texts", kept, left, len(got))
				}
			}
		}
	}
}

// Behind a tear nothing is read; what stands ahead of it is, whatever is written behind it, and laid anew it can be added to.
func TestWritingDownBehindATear(t *testing.T) {
	list := []string{"one", turning(130)}
	ahead := framesByWords(list)
	torn := frameByWords(turning(160))
	for cut := 1; cut < len(torn); cut++ {
		d := diskOf(keptFile("log", ahead+torn[:cut]))
		acts, _ := impl.LogActs("log", "more")
		after, done := impl.DoActs(d, acts)
		if done != 2 {
			t.Fatalf("%d acts are done", done)
		}
		hasTexts(t, "behind a tear", after, "log", list)
		anew, ok := impl.AnewActs(d, "log", impl.LogTexts(d, "log"))
		mended, done := impl.DoActs(d, anew)
		if !ok || done != 3 {
			t.Fatalf("%d acts are done, %v", done, ok)
		}
		hasTexts(t, "mended", mended, "log", list)
		writesDown(t, mended, "log", "more")
	}
}

// laysAnew is promise 8 of AnewActs: the power leaves the old list or the new one.
func laysAnew(t *testing.T, d impl.Disk, name string, list []string) {
	t.Helper()
	acts, ok := impl.AnewActs(d, name, list)
	if !ok {
		t.Fatalf("AnewActs of %q is false", name)
	}
	old := impl.LogTexts(d, name)
	for whole := range len(acts) + 1 {
		behind, _ := impl.DoActs(d, acts[:whole])
		file, _ := impl.FileAt(behind, "new")
		want := old
		if whole == len(acts) {
			want = list
		}
		for _, left := range powerLefts(len(d.Files)+1, placeWith(d, "new"), len(file)) {
			cut, ok := impl.CutActs(d, acts, whole, left)
			if !ok {
				t.Fatalf("CutActs with %d whole is false", whole)
			}
			if got := impl.LogTexts(cut, name); !slices.Equal(got, want) {
				t.Fatalf("with %d whole of %d, left with %.60v, %d texts are read; want %d", whole, len(acts), left, len(got), len(want))
			}
			othersStay(t, d, cut, name)
		}
	}
}

func TestWhatIsLaidAnewIsTheOldOrTheNew(t *testing.T) {
	lists := [][]string{nil, {"one"}, {"one", "two"}, {turning(130), "\x00", "\xff"}, smallRecords()[:8]}
	for _, old := range lists {
		for _, list := range lists {
			for i, d := range powerDisks(old) {
				if i < 4 {
					laysAnew(t, d, "log", list)
				}
			}
		}
	}
	full, text := fullFile()
	laysAnew(t, diskOf(keptFile("log", text)), "log", []string{"x"})
	laysAnew(t, diskOf(keptFile("log", text), keptFile("new", text)), "log", full)
	laysAnew(t, diskOf(keptFile("log", frameByWords("one")+"\x05torn")), "log", []string{"one"})
	laysAnew(t, impl.Disk{}, "12345678", []string{"x", turning(9000)})
	laysAnew(t, filesFrom(29), "log", []string{"x", "y"})
}

// A time that the power went ahead of the end is no harm to the next one.
func TestLaidAnewAgainAfterThePowerWent(t *testing.T) {
	list := []string{"one", "two", turning(140)}
	next := []string{"three", "four"}
	for _, d := range powerDisks([]string{"old", "older"})[:4] {
		acts, _ := impl.AnewActs(d, "log", list)
		for whole := range len(acts) + 1 {
			for _, left := range [][]int{nil, {1, 2, 3, 4, 5}, {7, 7, 7, 7, 7}, {20, 20, 20, 20, 20}, slices.Repeat([]int{math.MaxInt}, 6)} {
				cut, _ := impl.CutActs(d, acts, whole, left)
				laysAnew(t, cut, "log", next)
				again, ok := impl.AnewActs(cut, "log", next)
				after, done := impl.DoActs(cut, again)
				if !ok || done != len(again) {
					t.Fatalf("%d acts of %d are done, %v", done, len(again), ok)
				}
				isAnew(t, cut, after, "log", next)
			}
		}
	}
}

func drawnTexts(state *uint64) []string {
	list := make([]string, drawn(state, 5))
	for i := range list {
		list[i] = turning(1 + drawn(state, 140))
	}
	return list
}

// In a drawn life texts are added and laid anew, and the power goes at any time: two files are always what they were told, or that and what was under way.
func TestWrittenDownThroughADrawnLife(t *testing.T) {
	state := uint64(8)
	d := impl.Disk{}
	told := map[string][]string{}
	for range 3000 {
		name := []string{"coord", "shard"}[drawn(&state, 2)]
		old := told[name]
		var acts []impl.Act
		var next []string
		if f, _ := impl.FileAt(d, name); f == framesByWords(old) && len(f) < 5000 && drawn(&state, 8) > 0 {
			text := turning(1 + drawn(&state, 200))
			acts, _ = impl.LogActs(name, text)
			next = append(slices.Clone(old), text)
		} else {
			next = old
			if drawn(&state, 3) == 0 || len(f) >= 5000 {
				next = drawnTexts(&state)
			}
			acts, _ = impl.AnewActs(d, name, next)
		}
		whole := len(acts)
		if drawn(&state, 3) == 0 {
			whole = drawn(&state, len(acts)+1)
			left := []int{drawn(&state, 6000), drawn(&state, 6000), drawn(&state, 6000)}
			d, _ = impl.CutActs(d, acts, whole, left[:drawn(&state, 4)])
		} else {
			d, _ = impl.DoActs(d, acts)
		}
		got := impl.LogTexts(d, name)
		if whole == len(acts) && !slices.Equal(got, next) || !slices.Equal(got, next) && !slices.Equal(got, old) {
			t.Fatalf("%q has %d texts; it was told %d and %d", name, len(got), len(old), len(next))
		}
		told[name] = got
		for other, list := range told {
			hasTexts(t, "a drawn life", d, other, list)
		}
	}
}

func textsOfActs(acts []impl.Act) []string {
	var list []string
	for _, a := range acts {
		list = append(list, a.Name, a.Text, a.To)
	}
	return list
}

func TestLogsAnswerNewMemory(t *testing.T) {
	name, text := turning(8), turning(300)
	list := []string{turning(40), turning(50)}
	d := diskOf(keptLog(name, turning(60), turning(70)), keptFile(strings.Clone("new"), turning(30)))
	if !impl.DiskOk(d) {
		t.Fatal("the disk is not right")
	}
	was, wasList, wasName, wasText := copyOf(d), slices.Clone(list), strings.Clone(name), strings.Clone(text)
	given := append(textsOfDisk(d), append(slices.Clone(list), name, text)...)
	logged, ok := impl.LogActs(name, text)
	anew, right := impl.AnewActs(d, name, list)
	texts := impl.LogTexts(d, name)
	if !ok || !right || len(texts) != 2 {
		t.Fatal("no answer")
	}
	noneShares(t, "LogActs and what was handed in", textsOfActs(logged), given)
	noneShares(t, "AnewActs and what was handed in", textsOfActs(anew), given)
	noneShares(t, "LogTexts and what was handed in", texts, given)
	noneShares(t, "one text and the other", texts[:1], texts[1:])
	clear(logged)
	clear(anew)
	clear(texts)
	if !sameDisk(d, was) || !slices.Equal(list, wasList) || name != wasName || text != wasText {
		t.Error("an argument goes with what was made of it")
	}
}

// A list that is handed in may be a piece of a longer one, whose spare room is somebody else's.
func TestLogsWriteIntoNoSpareRoom(t *testing.T) {
	room := append([]impl.File{keptLog("log", "one", "two"), keptFile("new", "junk")}, filesFrom(4).Files...)
	texts := []string{"one", "two", "three", "four"}
	wasRoom, wasTexts := slices.Clone(room), slices.Clone(texts)
	for size := range 3 {
		d := impl.Disk{Files: room[:size]}
		for count := range 4 {
			acts, _ := impl.AnewActs(d, "log", texts[:count])
			_ = append(acts, dropAct("x"))
		}
		_ = append(impl.LogTexts(d, "log"), "more")
	}
	if !slices.Equal(room, wasRoom) || !slices.Equal(texts, wasTexts) {
		t.Error("an argument was written into")
	}
}

// Every call answers from what it is given alone: what was changed of an answer is not in the next one.
func TestLogsKeepNothing(t *testing.T) {
	d := diskOf(keptLog("log", "one", "two"), keptFile("new", "junk"))
	first, _ := impl.LogActs("log", "x")
	anew, _ := impl.AnewActs(d, "log", []string{"y"})
	texts := impl.LogTexts(d, "log")
	clear(first)
	clear(anew)
	clear(texts)
	impl.LogActs("new", "")
	impl.AnewActs(diskOf(file("", "", 1)), "log", []string{""})
	impl.LogTexts(impl.Disk{}, "log")
	first, ok := impl.LogActs("log", "x")
	isLogActs(t, "LogActs again", first, ok, addAct("log", frameByWords("x")), keepAct("log"))
	anew, ok = impl.AnewActs(d, "log", []string{"y"})
	isLogActs(t, "AnewActs again", anew, ok, anewByWords(d, "log", []string{"y"})...)
	hasTexts(t, "LogTexts again", d, "log", []string{"one", "two"})
}

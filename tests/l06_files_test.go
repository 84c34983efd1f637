package tests

import (
	"math"
	"slices"
	"strings"
	"testing"

	"loop.example/g00284/impl"
)

func file(name, text string, kept int) impl.File {
	return impl.File{Name: name, Text: text, Kept: kept}
}

func diskOf(files ...impl.File) impl.Disk {
	return impl.Disk{Files: files}
}

// filesFrom has so many files, the ones behind with more text, half of it kept.
func filesFrom(count int) impl.Disk {
	d := impl.Disk{}
	for i := range count {
		d.Files = append(d.Files, file("f"+string([]byte{byte('0' + i/10), byte('0' + i%10)}), turning(i), i/2))
	}
	return d
}

func sameDisk(a, b impl.Disk) bool {
	return slices.Equal(a.Files, b.Files)
}

// copyOf shares no list with the disk.
func copyOf(d impl.Disk) impl.Disk {
	return impl.Disk{Files: slices.Clone(d.Files)}
}

func diskOkByWords(d impl.Disk) bool {
	for i, f := range d.Files {
		if len(f.Name) == 0 || len(f.Name) > 8 || len(f.Text) > 20000 || f.Kept < 0 || f.Kept > len(f.Text) {
			return false
		}
		for _, behind := range d.Files[i+1:] {
			if strings.Compare(f.Name, behind.Name) != -1 {
				return false
			}
		}
	}
	return len(d.Files) < 31
}

func placeOf(d impl.Disk, name string) int {
	return slices.IndexFunc(d.Files, func(f impl.File) bool { return f.Name == name })
}

// actFits is false where the chapter names a reason that needs no look at what comes.
func actFits(d impl.Disk, a impl.Act) bool {
	switch a.Kind {
	case 1:
		return a.To == ""
	case 2, 4:
		return a.To == "" && a.Text == "" && placeOf(d, a.Name) >= 0
	case 3:
		at := placeOf(d, a.Name)
		return a.Text == "" && at >= 0 && a.To != a.Name && d.Files[at].Kept == len(d.Files[at].Text)
	}
	return false
}

// doByWords builds what would come, as a list, and then asks if it is right.
func doByWords(d impl.Disk, a impl.Act) (impl.Disk, bool) {
	if !diskOkByWords(d) || !actFits(d, a) {
		return impl.Disk{}, false
	}
	var comes []impl.File
	for _, f := range d.Files {
		switch {
		case f.Name != a.Name && !(a.Kind == 3 && f.Name == a.To):
			comes = append(comes, f)
		case f.Name == a.Name && a.Kind == 1:
			comes = append(comes, file(f.Name, f.Text+a.Text, f.Kept))
		case f.Name == a.Name && a.Kind == 2:
			comes = append(comes, file(f.Name, f.Text, len(f.Text)))
		case f.Name == a.Name && a.Kind == 3:
			comes = append(comes, file(a.To, f.Text, len(f.Text)))
		}
	}
	if a.Kind == 1 && placeOf(d, a.Name) < 0 {
		comes = append(comes, file(a.Name, a.Text, 0))
	}
	slices.SortFunc(comes, func(a, b impl.File) int { return strings.Compare(a.Name, b.Name) })
	if e := (impl.Disk{Files: comes}); diskOkByWords(e) {
		return e, true
	}
	return impl.Disk{}, false
}

func loseByWords(d impl.Disk, left []int) (impl.Disk, bool) {
	e := impl.Disk{}
	for i, f := range d.Files {
		stays := 0
		if i < len(left) && left[i] > 0 {
			stays = left[i]
		}
		if stays > len(f.Text) {
			stays = len(f.Text)
		}
		if stays < f.Kept {
			stays = f.Kept
		}
		if !diskOkByWords(d) {
			return impl.Disk{}, false
		}
		e.Files = append(e.Files, file(f.Name, f.Text[:stays], stays))
	}
	return e, diskOkByWords(d)
}

// rightDisks have no file, some and as many as there may be, with all, some and nothing of them kept.
func rightDisks() []impl.Disk {
	return []impl.Disk{
		{},
		diskOf(file("a", "", 0)),
		diskOf(file("a", "123", 1)),
		diskOf(file("a", "123", 3), file("b", "45", 0)),
		diskOf(file("b", "12", 2), file("d", "345", 2), file("f", "", 0)),
		diskOf(file("a", "1", 1), file("aa", "22", 2), file("ab", "333", 0), file("b", "4444", 3)),
		diskOf(file("\x00", "\x00", 0), file("\x7f", "\xff", 1), file("\xff", "\x00\xff", 1)),
		diskOf(file("12345678", turning(20000), 20000), file("new", turning(19999), 777)),
		filesFrom(29),
		filesFrom(30),
	}
}

func wrongDisks() []impl.Disk {
	return []impl.Disk{
		filesFrom(31),
		diskOf(file("a", "1", 1), file("a", "1", 1)),
		diskOf(file("a", "1", 1), file("a", "22", 0)),
		diskOf(file("b", "1", 1), file("a", "1", 1)),
		diskOf(file("a", "", 0), file("c", "", 0), file("b", "", 0)),
		diskOf(file("a", "", 0), file("b", "", 0), file("a", "", 0)),
		diskOf(file("aa", "", 0), file("a", "", 0)),
		diskOf(file("\xff", "", 0), file("\x00", "", 0)),
		diskOf(file("", "1", 1)),
		diskOf(file("", "", 0), file("a", "", 0)),
		diskOf(file("123456789", "1", 1)),
		diskOf(file("a", turning(20001), 0)),
		diskOf(file("a", turning(20001), 20001)),
		diskOf(file("a", "12", -1)),
		diskOf(file("a", "12", 3)),
		diskOf(file("a", "", 1)),
		diskOf(file("a", "", -1)),
		diskOf(file("a", "12", math.MaxInt)),
		diskOf(file("a", "12", math.MinInt)),
		diskOf(file("a", "12", 1<<32)),
		diskOf(file("a", "12", 2), file("b", "12", 3)),
		diskOf(file("a", "12", -1), file("b", "12", 2)),
	}
}

func actNames() []string {
	return []string{"a", "b", "c", "d", "e", "f", "aa", "ab", "ac", "new", "f00", "f15", "f29", "f30", "A", "z", "\x00", "\xff", "", "12345678", "123456789", turning(300)}
}

// someActs are right ones and wrong ones of every kind.
func someActs() []impl.Act {
	var list []impl.Act
	for _, name := range actNames() {
		for _, kind := range []int{impl.ActKeep, impl.ActDrop, 0, 5, -1, -2, 1 << 32, 1<<32 + 1, math.MaxInt, math.MinInt} {
			list = append(list, impl.Act{Kind: kind, Name: name}, impl.Act{Kind: kind, Name: name, Text: "x"}, impl.Act{Kind: kind, Name: name, To: "g"}, impl.Act{Kind: kind, Name: name, To: name})
		}
		for _, text := range []string{"", "x", "\x00\xff", turning(19998), turning(20000), turning(20001)} {
			list = append(list, impl.Act{Kind: impl.ActAdd, Name: name, Text: text})
		}
		list = append(list, impl.Act{Kind: impl.ActAdd, Name: name, Text: "x", To: "g"}, impl.Act{Kind: impl.ActAdd, Name: name, Text: "x", To: name}, impl.Act{Kind: impl.ActMove, Name: name, Text: "x", To: "g"})
		for _, to := range actNames() {
			list = append(list, impl.Act{Kind: impl.ActMove, Name: name, To: to})
		}
	}
	return list
}

func someLefts() [][]int {
	return [][]int{
		nil, {}, {0}, {1}, {2}, {-1}, {3}, {4}, {0, 0}, {1, 1}, {2, 2, 2}, {-1, 1, -1, 1}, {9, 9, 9, 9, 9}, {0, 5},
		{math.MaxInt, math.MinInt}, {math.MinInt, math.MaxInt}, {math.MaxInt, math.MaxInt, math.MaxInt, math.MaxInt},
		{1 << 32, 1 << 32}, {-1 << 32, 1 << 31}, slices.Repeat([]int{7}, 29), slices.Repeat([]int{20}, 30), slices.Repeat([]int{20}, 31), slices.Repeat([]int{10000}, 100),
	}
}

func TestFileConstants(t *testing.T) {
	if impl.MaxFiles != 30 || impl.MaxFileName != 8 || impl.ActAdd != 1 || impl.ActKeep != 2 || impl.ActMove != 3 || impl.ActDrop != 4 {
		t.Error("constants")
	}
}

func TestDiskOkOfRightOnes(t *testing.T) {
	for count := range 31 {
		if !impl.DiskOk(filesFrom(count)) {
			t.Errorf("%d files are not right", count)
		}
	}
	for i, d := range rightDisks() {
		if !impl.DiskOk(d) {
			t.Errorf("right disk %d is not right", i)
		}
	}
	for size := 1; size <= 8; size++ {
		if !impl.DiskOk(diskOf(file(turning(size), "", 0))) {
			t.Errorf("a name of %d bytes is not right", size)
		}
	}
	for kept := range 4 {
		if !impl.DiskOk(diskOf(file("a", "123", kept))) {
			t.Errorf("Kept %d of 3 is not right", kept)
		}
	}
}

func TestDiskOkOfWrongOnes(t *testing.T) {
	for i, d := range wrongDisks() {
		if impl.DiskOk(d) {
			t.Errorf("wrong disk %d is right", i)
		}
	}
	for _, size := range []int{0, 9, 10, 16, 264, 300} {
		if impl.DiskOk(diskOf(file(turning(size), "", 0))) {
			t.Errorf("a name of %d bytes is right", size)
		}
	}
	if impl.DiskOk(filesFrom(32)) || impl.DiskOk(filesFrom(60)) {
		t.Error("too many files are right")
	}
}

// What is wrong is found at whichever place it stands.
func TestDiskOkLooksAtEveryFile(t *testing.T) {
	for at := range 30 {
		for _, f := range []impl.File{file("", "", 0), file("f00000000", "", 0), file("f00", turning(20001), 0), file("f00", "12", 3), file("f00", "12", -1)} {
			d := filesFrom(30)
			if f.Name == "f00" {
				f.Name = d.Files[at].Name
			}
			d.Files[at] = f
			if impl.DiskOk(d) {
				t.Errorf("%.20v at %d is right", f, at)
			}
		}
		if at == 0 {
			continue
		}
		d := filesFrom(30)
		d.Files[at].Name = d.Files[at-1].Name
		if impl.DiskOk(d) {
			t.Errorf("two names alike at %d are right", at)
		}
		d = filesFrom(30)
		d.Files[at], d.Files[at-1] = d.Files[at-1], d.Files[at]
		if impl.DiskOk(d) {
			t.Errorf("two that change places at %d are right", at)
		}
	}
}

func TestFileAtOfEveryFile(t *testing.T) {
	for i, d := range rightDisks() {
		for _, f := range d.Files {
			if text, ok := impl.FileAt(d, f.Name); !ok || text != f.Text {
				t.Errorf("FileAt of disk %d, %q = %.20q, %v", i, f.Name, text, ok)
			}
		}
		for _, name := range actNames() {
			text, ok := impl.FileAt(d, name)
			if there := placeOf(d, name) >= 0; ok != there || !ok && text != "" {
				t.Errorf("FileAt of disk %d, %.20q = %.20q, %v", i, name, text, ok)
			}
		}
	}
	d := diskOf(file("a", "", 0), file("b", "2", 0), file("bb", "3", 1))
	for name, want := range map[string]string{"a": "", "b": "2", "bb": "3"} {
		if text, ok := impl.FileAt(d, name); !ok || text != want {
			t.Errorf("FileAt %q = %q, %v", name, text, ok)
		}
	}
	for _, name := range []string{"", "A", "c", "bbb", "a\x00", "\x00", "0", "123456789"} {
		if text, ok := impl.FileAt(d, name); ok || text != "" {
			t.Errorf("FileAt %q = %q, %v", name, text, ok)
		}
	}
}

// A disk that is not right has files, too: the chapter wants no right one here.
func TestFileAtOfDisksThatAreNotRight(t *testing.T) {
	d := diskOf(file("c", "1", 5), file("a", "2", -1), file("b", "3", 0))
	for name, want := range map[string]string{"a": "2", "b": "3", "c": "1"} {
		if text, ok := impl.FileAt(d, name); !ok || text != want {
			t.Errorf("FileAt %q = %q, %v", name, text, ok)
		}
	}
}

// doesByWords holds DoAct against the chapter's words, and the disk that was handed in against what it was.
func doesByWords(t *testing.T, d impl.Disk, a impl.Act) {
	t.Helper()
	was := copyOf(d)
	want, wantOk := doByWords(d, a)
	got, ok := impl.DoAct(d, a)
	if ok != wantOk || !sameDisk(got, want) {
		t.Fatalf("DoAct(%.200v, %.60v) = %.200v, %v", d, a, got, ok)
	}
	if ok && !impl.DiskOk(got) {
		t.Fatalf("DoAct(%.200v, %.60v) is not right", d, a)
	}
	if !sameDisk(d, was) {
		t.Fatalf("DoAct(%.200v, %.60v) writes into its disk", was, a)
	}
}

func TestDoActByWords(t *testing.T) {
	acts := someActs()
	for _, d := range rightDisks() {
		for _, a := range acts {
			doesByWords(t, d, a)
		}
	}
}

func TestDoActOfWrongDisks(t *testing.T) {
	for i, d := range wrongDisks() {
		names := []string{"a", "b", "g", "f00"}
		for _, f := range d.Files {
			names = append(names, f.Name)
		}
		for _, name := range names {
			for _, a := range []impl.Act{{Kind: 1, Name: name, Text: "x"}, {Kind: 1, Name: name}, {Kind: 2, Name: name}, {Kind: 3, Name: name, To: "g"}, {Kind: 4, Name: name}} {
				if got, ok := impl.DoAct(d, a); ok || len(got.Files) > 0 {
					t.Errorf("DoAct of wrong disk %d, %.60v = %.60v, %v", i, a, got, ok)
				}
			}
		}
	}
}

// becomes wants the act to be true and to make this of the disk.
func becomes(t *testing.T, d impl.Disk, a impl.Act, files ...impl.File) {
	t.Helper()
	if got, ok := impl.DoAct(d, a); !ok || !slices.Equal(got.Files, files) {
		t.Errorf("DoAct(%.100v, %.60v) = %.100v, %v", d, a, got, ok)
	}
}

func refusesAct(t *testing.T, d impl.Disk, a impl.Act) {
	t.Helper()
	if got, ok := impl.DoAct(d, a); ok || len(got.Files) > 0 {
		t.Errorf("DoAct(%.100v, %.60v) = %.100v, %v", d, a, got, ok)
	}
}

func addAct(name, text string) impl.Act {
	return impl.Act{Kind: impl.ActAdd, Name: name, Text: text}
}

func keepAct(name string) impl.Act {
	return impl.Act{Kind: impl.ActKeep, Name: name}
}

func moveAct(name, to string) impl.Act {
	return impl.Act{Kind: impl.ActMove, Name: name, To: to}
}

func dropAct(name string) impl.Act {
	return impl.Act{Kind: impl.ActDrop, Name: name}
}

func TestActAdd(t *testing.T) {
	b, d := file("b", "12", 1), file("d", "34", 2)
	two := diskOf(b, d)
	becomes(t, two, addAct("b", "xy"), file("b", "12xy", 1), d)
	becomes(t, two, addAct("d", "xy"), b, file("d", "34xy", 2))
	becomes(t, two, addAct("b", ""), b, d)
	becomes(t, two, addAct("a", "xy"), file("a", "xy", 0), b, d)
	becomes(t, two, addAct("c", "xy"), b, file("c", "xy", 0), d)
	becomes(t, two, addAct("e", "xy"), b, d, file("e", "xy", 0))
	becomes(t, two, addAct("bb", ""), b, file("bb", "", 0), d)
	becomes(t, impl.Disk{}, addAct("a", ""), file("a", "", 0))
	becomes(t, impl.Disk{}, addAct("12345678", "x"), file("12345678", "x", 0))
	refusesAct(t, two, addAct("", "x"))
	refusesAct(t, two, addAct("", ""))
	refusesAct(t, two, addAct("123456789", "x"))
	refusesAct(t, two, addAct("123456789", ""))
	for _, to := range []string{"b", "c", "d", "123456789"} {
		refusesAct(t, two, impl.Act{Kind: impl.ActAdd, Name: "b", Text: "x", To: to})
		refusesAct(t, two, impl.Act{Kind: impl.ActAdd, Name: "e", Text: "x", To: to})
	}
}

func TestActAddAtTheLimits(t *testing.T) {
	whole := turning(20000)
	for _, size := range []int{0, 1, 77, 19999, 20000} {
		d := diskOf(file("a", whole[:size], size/2), file("b", "1", 0))
		becomes(t, d, addAct("a", whole[size:]), file("a", whole, size/2), file("b", "1", 0))
		refusesAct(t, d, addAct("a", whole[size:]+"x"))
	}
	becomes(t, impl.Disk{}, addAct("a", whole), file("a", whole, 0))
	refusesAct(t, impl.Disk{}, addAct("a", whole+"x"))
	refusesAct(t, diskOf(file("a", whole, 0)), addAct("a", whole))
	d := filesFrom(29)
	becomes(t, d, addAct("g", "x"), append(filesFrom(29).Files, file("g", "x", 0))...)
	d = filesFrom(30)
	refusesAct(t, d, addAct("g", "x"))
	refusesAct(t, d, addAct("g", ""))
	refusesAct(t, d, addAct("f000", ""))
	more := filesFrom(30)
	more.Files[29].Text += "x"
	becomes(t, d, addAct("f29", "x"), more.Files...)
}

func TestActKeep(t *testing.T) {
	b, d := file("b", "12", 1), file("d", "345", 0)
	two := diskOf(b, d)
	becomes(t, two, keepAct("b"), file("b", "12", 2), d)
	becomes(t, two, keepAct("d"), b, file("d", "345", 3))
	becomes(t, diskOf(file("a", "", 0)), keepAct("a"), file("a", "", 0))
	becomes(t, diskOf(file("a", "12", 2)), keepAct("a"), file("a", "12", 2))
	for _, name := range []string{"", "a", "c", "e", "bb", "123456789"} {
		refusesAct(t, two, keepAct(name))
	}
	refusesAct(t, impl.Disk{}, keepAct("a"))
	refusesAct(t, two, impl.Act{Kind: impl.ActKeep, Name: "b", Text: "x"})
	refusesAct(t, two, impl.Act{Kind: impl.ActKeep, Name: "b", To: "c"})
	refusesAct(t, two, impl.Act{Kind: impl.ActKeep, Name: "b", To: "b"})
}

func TestActMove(t *testing.T) {
	b, d, f := file("b", "12", 2), file("d", "34", 1), file("f", "", 0)
	three := diskOf(b, d, f)
	becomes(t, three, moveAct("b", "a"), file("a", "12", 2), d, f)
	becomes(t, three, moveAct("b", "c"), file("c", "12", 2), d, f)
	becomes(t, three, moveAct("b", "e"), d, file("e", "12", 2), f)
	becomes(t, three, moveAct("b", "g"), d, f, file("g", "12", 2))
	becomes(t, three, moveAct("b", "d"), file("d", "12", 2), f)
	becomes(t, three, moveAct("b", "f"), d, file("f", "12", 2))
	becomes(t, three, moveAct("f", "b"), file("b", "", 0), d)
	becomes(t, three, moveAct("f", "12345678"), file("12345678", "", 0), b, d)
	for _, to := range []string{"a", "b", "c", "d", "f"} {
		refusesAct(t, three, moveAct("d", to))
		refusesAct(t, three, moveAct("a", to))
		refusesAct(t, three, moveAct("", to))
		refusesAct(t, three, impl.Act{Kind: impl.ActMove, Name: "b", Text: "x", To: to})
	}
	for _, to := range []string{"b", "", "123456789"} {
		refusesAct(t, three, moveAct("b", to))
	}
	refusesAct(t, impl.Disk{}, moveAct("a", "b"))
	full := filesFrom(30)
	becomes(t, full, moveAct("f00", "g"), append(filesFrom(30).Files[1:], file("g", "", 0))...)
}

func TestActDrop(t *testing.T) {
	b, d, f := file("b", "12", 2), file("d", "34", 1), file("f", "", 0)
	three := diskOf(b, d, f)
	becomes(t, three, dropAct("b"), d, f)
	becomes(t, three, dropAct("d"), b, f)
	becomes(t, three, dropAct("f"), b, d)
	becomes(t, diskOf(b), dropAct("b"))
	for _, name := range []string{"", "a", "c", "g", "123456789"} {
		refusesAct(t, three, dropAct(name))
	}
	refusesAct(t, impl.Disk{}, dropAct("a"))
	refusesAct(t, impl.Disk{}, dropAct(""))
	refusesAct(t, three, impl.Act{Kind: impl.ActDrop, Name: "b", Text: "x"})
	refusesAct(t, three, impl.Act{Kind: impl.ActDrop, Name: "b", To: "c"})
	refusesAct(t, three, impl.Act{Kind: impl.ActDrop, Name: "b", To: "b"})
}

func TestActsOfNoKind(t *testing.T) {
	d := diskOf(file("a", "12", 2), file("b", "3", 1))
	for _, kind := range []int{0, 5, -1, -3, 6, 7, 255, 256, 257, 1 << 32, 1<<32 + 1, math.MaxInt, math.MinInt} {
		for _, a := range []impl.Act{{}, {Name: "a"}, {Name: "c"}, {Name: "a", Text: "x"}, {Name: "a", To: "b"}, {Name: "a", To: "c"}} {
			a.Kind = kind
			refusesAct(t, d, a)
		}
	}
}

// actsByWords goes on from disk to disk.
func actsByWords(d impl.Disk, list []impl.Act) (impl.Disk, int) {
	for i, a := range list {
		next, ok := doByWords(d, a)
		if !ok {
			return d, i
		}
		d = next
	}
	return d, len(list)
}

func fewActs() []impl.Act {
	return []impl.Act{addAct("a", "1"), addAct("b", "22"), addAct("a", ""), keepAct("a"), keepAct("b"), moveAct("a", "b"), moveAct("b", "a"), moveAct("b", "c"), dropAct("a"), dropAct("b"), dropAct("c"), {Kind: 5, Name: "a"}}
}

// Whatever three acts come, on an empty disk and on one with files.
func TestDoActsByWords(t *testing.T) {
	acts := fewActs()
	for _, d := range []impl.Disk{{}, diskOf(file("b", "123", 2)), diskOf(file("a", "12", 2), file("c", "3", 0))} {
		for i := range len(acts) * len(acts) * len(acts) {
			list := []impl.Act{acts[i%len(acts)], acts[i/len(acts)%len(acts)], acts[i/len(acts)/len(acts)]}
			actsAsByWords(t, d, list)
		}
	}
}

func actsAsByWords(t *testing.T, d impl.Disk, list []impl.Act) {
	t.Helper()
	was, wasList := copyOf(d), slices.Clone(list)
	want, wantCount := actsByWords(d, list)
	if got, count := impl.DoActs(d, list); count != wantCount || !sameDisk(got, want) {
		t.Fatalf("DoActs(%.100v, %.100v) = %.100v, %d", d, list, got, count)
	}
	if !sameDisk(d, was) || !slices.Equal(list, wasList) {
		t.Fatalf("DoActs(%.100v, %.100v) writes into an argument", was, wasList)
	}
}

// The first that is false ends it, at whatever place, with all that was done ahead of it.
func TestDoActsUpToTheFirstThatIsFalse(t *testing.T) {
	right := []impl.Act{addAct("a", "1"), keepAct("a"), addAct("a", "2"), addAct("b", "3"), keepAct("a"), moveAct("a", "b"), dropAct("b"), addAct("c", "4")}
	if d, count := impl.DoActs(impl.Disk{}, right); count != 8 || !sameDisk(d, diskOf(file("c", "4", 0))) {
		t.Errorf("DoActs = %v, %d", d, count)
	}
	for at := range len(right) + 1 {
		for _, wrong := range []impl.Act{{}, dropAct("z"), moveAct("z", "a"), keepAct("z"), addAct("", ""), addAct("123456789", "x"), addAct("a", turning(20001))} {
			list := slices.Insert(slices.Clone(right), at, wrong)
			want, _ := actsByWords(impl.Disk{}, right[:at])
			if d, count := impl.DoActs(impl.Disk{}, list); count != at || !sameDisk(d, want) {
				t.Errorf("DoActs with a wrong one at %d = %.60v, %d", at, d, count)
			}
		}
	}
}

func TestDoActsOfNoAct(t *testing.T) {
	for i, d := range rightDisks() {
		for _, list := range [][]impl.Act{nil, {}} {
			if got, count := impl.DoActs(d, list); count != 0 || !sameDisk(got, d) {
				t.Errorf("DoActs of disk %d and no act = %.60v, %d", i, got, count)
			}
		}
	}
}

// A disk that is not right stays as it is, as no act of it is true.
func TestDoActsOfWrongDisks(t *testing.T) {
	for i, d := range wrongDisks() {
		for _, list := range [][]impl.Act{nil, {addAct("a", "x")}, {keepAct("a"), dropAct("a")}, {dropAct("a"), dropAct("b")}} {
			was := copyOf(d)
			if got, count := impl.DoActs(d, list); count != 0 || !sameDisk(got, was) || !sameDisk(d, was) {
				t.Errorf("DoActs of wrong disk %d = %.60v, %d", i, got, count)
			}
		}
	}
}

func TestLoseDiskByWords(t *testing.T) {
	for i, d := range rightDisks() {
		for _, left := range someLefts() {
			was, wasLeft := copyOf(d), slices.Clone(left)
			want, _ := loseByWords(d, left)
			if got, ok := impl.LoseDisk(d, left); !ok || !sameDisk(got, want) {
				t.Errorf("LoseDisk of disk %d, %v = %.100v, %v", i, left, got, ok)
			}
			if !sameDisk(d, was) || !slices.Equal(left, wasLeft) {
				t.Errorf("LoseDisk of disk %d, %v writes into an argument", i, left)
			}
		}
	}
}

func TestLoseDiskOfOneFile(t *testing.T) {
	d := diskOf(file("a", "12345", 2))
	for left, want := range map[int]string{math.MinInt: "12", -1: "12", 0: "12", 1: "12", 2: "12", 3: "123", 4: "1234", 5: "12345", 6: "12345", 1 << 32: "12345", math.MaxInt: "12345"} {
		got, ok := impl.LoseDisk(d, []int{left})
		if !ok || !sameDisk(got, diskOf(file("a", want, len(want)))) {
			t.Errorf("LoseDisk, left with %d = %v, %v", left, got, ok)
		}
	}
	if got, ok := impl.LoseDisk(d, nil); !ok || !sameDisk(got, diskOf(file("a", "12", 2))) {
		t.Errorf("LoseDisk, nothing told = %v, %v", got, ok)
	}
	if got, ok := impl.LoseDisk(impl.Disk{}, []int{3}); !ok || len(got.Files) > 0 {
		t.Errorf("LoseDisk of no file = %v, %v", got, ok)
	}
}

// What left tells is told by place, not by name.
func TestLoseDiskGoesByPlaces(t *testing.T) {
	d := filesFrom(30)
	for at := range 30 {
		left := make([]int, 30)
		left[at] = 1000
		got, ok := impl.LoseDisk(d, left)
		for i := range 30 {
			want := d.Files[i].Text[:d.Files[i].Kept]
			if i == at {
				want = d.Files[i].Text
			}
			if !ok || got.Files[i] != file(d.Files[i].Name, want, len(want)) {
				t.Fatalf("LoseDisk with all at %d has %v at %d", at, got.Files[i], i)
			}
		}
	}
}

func TestLoseDiskOfWrongDisks(t *testing.T) {
	for i, d := range wrongDisks() {
		for _, left := range someLefts() {
			if got, ok := impl.LoseDisk(d, left); ok || len(got.Files) > 0 {
				t.Errorf("LoseDisk of wrong disk %d = %.60v, %v", i, got, ok)
			}
		}
	}
}

// losesAsPromised is promise 6, of one loss of power.
func losesAsPromised(t *testing.T, d impl.Disk, left []int) impl.Disk {
	t.Helper()
	lost, ok := impl.LoseDisk(d, left)
	if !ok || !impl.AllKept(lost) || len(lost.Files) != len(d.Files) {
		t.Fatalf("LoseDisk(%.100v, %v) = %.100v, %v", d, left, lost, ok)
	}
	for i, f := range d.Files {
		l := lost.Files[i]
		if l.Name != f.Name || !strings.HasPrefix(l.Text, f.Text[:f.Kept]) || !strings.HasPrefix(f.Text, l.Text) {
			t.Fatalf("LoseDisk(%.100v, %v) leaves %.60v of %.60v", d, left, l, f)
		}
	}
	for _, more := range append(someLefts(), left) {
		if again, ok := impl.LoseDisk(lost, more); !ok || !sameDisk(again, lost) {
			t.Fatalf("lost again, with %v, %.100v is %.100v, %v", more, lost, again, ok)
		}
	}
	return lost
}

func TestWhatIsKeptIsNeverLost(t *testing.T) {
	for _, d := range rightDisks() {
		for _, left := range someLefts() {
			losesAsPromised(t, d, left)
		}
	}
	text := "12345"
	for kept := range len(text) + 1 {
		for left := -2; left < 8; left++ {
			lost := losesAsPromised(t, diskOf(file("a", text, kept)), []int{left})
			if want := text[:min(max(left, kept), len(text))]; lost.Files[0].Text != want {
				t.Errorf("%d kept, left with %d: %q", kept, left, lost.Files[0].Text)
			}
		}
	}
}

// drawn is the next number of a fixed row of them, below the limit.
func drawn(state *uint64, limit int) int {
	*state = *state*6364136223846793005 + 1442695040888963407
	return int((*state >> 33) % uint64(limit))
}

// drawnAct is mostly of a few names, so that they meet.
func drawnAct(state *uint64) impl.Act {
	names := []string{"a", "b", "c", "dd", "new", "", "123456789"}
	name, to := names[drawn(state, 7)], names[drawn(state, 7)]
	switch drawn(state, 10) {
	case 0:
		return dropAct(name)
	case 1, 2, 3:
		return keepAct(name)
	case 4, 5:
		return moveAct(name, to)
	case 6:
		return impl.Act{Kind: drawn(state, 6), Name: name, Text: []string{"", "x"}[drawn(state, 2)], To: []string{"", to}[drawn(state, 2)]}
	}
	return addAct(name, turning(drawn(state, 40)))
}

// In a drawn life what ActKeep promised stays, whatever the power leaves of all else, until it is dropped or moved away.
func TestKeptThroughADrawnLife(t *testing.T) {
	state := uint64(6)
	d := impl.Disk{}
	promised := map[string]string{}
	for range 3000 {
		a := drawnAct(&state)
		next, ok := impl.DoAct(d, a)
		doesByWords(t, d, a)
		if ok {
			d = next
			promiseAfter(d, a, promised)
		}
		left := []int{drawn(&state, 90) - 5, drawn(&state, 90) - 5, drawn(&state, 90) - 5}
		lost := losesAsPromised(t, d, left[:drawn(&state, 4)])
		for name, kept := range promised {
			if text, ok := impl.FileAt(lost, name); !ok || !strings.HasPrefix(text, kept) {
				t.Fatalf("what was kept of %q is lost", name)
			}
		}
		if drawn(&state, 20) == 0 {
			d = lost
		}
	}
}

func promiseAfter(d impl.Disk, a impl.Act, promised map[string]string) {
	switch a.Kind {
	case impl.ActKeep:
		promised[a.Name], _ = impl.FileAt(d, a.Name)
	case impl.ActMove:
		promised[a.To], _ = impl.FileAt(d, a.To)
		delete(promised, a.Name)
	case impl.ActDrop:
		delete(promised, a.Name)
	}
}

// cutsByWords holds CutActs against the words of the three functions it is made of.
func cutsByWords(t *testing.T, d impl.Disk, list []impl.Act, whole int, left []int) {
	t.Helper()
	want, wantOk := impl.Disk{}, false
	if whole >= 0 && whole <= len(list) {
		behind, count := actsByWords(d, list[:whole])
		if count == whole {
			want, wantOk = loseByWords(behind, left)
		}
	}
	was, wasList, wasLeft := copyOf(d), slices.Clone(list), slices.Clone(left)
	if got, ok := impl.CutActs(d, list, whole, left); ok != wantOk || !sameDisk(got, want) {
		t.Fatalf("CutActs(%.100v, %.200v, %d, %v) = %.100v, %v", d, list, whole, left, got, ok)
	}
	if !sameDisk(d, was) || !slices.Equal(list, wasList) || !slices.Equal(left, wasLeft) {
		t.Fatal("CutActs writes into an argument")
	}
}

func TestCutActsByWords(t *testing.T) {
	lists := [][]impl.Act{nil, {addAct("a", "12")}, {addAct("a", "12"), keepAct("a"), addAct("a", "34"), addAct("b", "56"), moveAct("a", "b")}, {addAct("new", "123"), keepAct("new"), moveAct("new", "a"), addAct("a", "45"), dropAct("a")}}
	for _, d := range append(rightDisks(), wrongDisks()...) {
		for _, list := range lists {
			for whole := -1; whole <= len(list)+1; whole++ {
				for _, left := range someLefts() {
					cutsByWords(t, d, list, whole, left)
				}
			}
			for _, whole := range []int{math.MinInt, math.MaxInt, 1 << 32, -1 << 32} {
				cutsByWords(t, d, list, whole, nil)
			}
		}
	}
}

func TestCutActs(t *testing.T) {
	list := []impl.Act{addAct("a", "12"), keepAct("a"), addAct("a", "34"), dropAct("z"), addAct("a", "56")}
	for whole, want := range [][]impl.File{0: nil, 1: {file("a", "", 0)}, 2: {file("a", "12", 2)}, 3: {file("a", "12", 2)}} {
		if got, ok := impl.CutActs(impl.Disk{}, list, whole, nil); !ok || !slices.Equal(got.Files, want) {
			t.Errorf("CutActs whole %d = %v, %v", whole, got, ok)
		}
	}
	if got, ok := impl.CutActs(impl.Disk{}, list, 3, []int{3}); !ok || !sameDisk(got, diskOf(file("a", "123", 3))) {
		t.Errorf("CutActs whole 3, left with 3 = %v, %v", got, ok)
	}
	for _, whole := range []int{-1, 4, 5, 6} {
		if got, ok := impl.CutActs(impl.Disk{}, list, whole, nil); ok || len(got.Files) > 0 {
			t.Errorf("CutActs whole %d = %v, %v", whole, got, ok)
		}
	}
	for _, d := range wrongDisks() {
		if got, ok := impl.CutActs(d, nil, 0, nil); ok || len(got.Files) > 0 {
			t.Errorf("CutActs of no act of a wrong disk = %.60v, %v", got, ok)
		}
	}
}

func TestAllKept(t *testing.T) {
	if !impl.AllKept(impl.Disk{}) || !impl.AllKept(diskOf()) {
		t.Error("no file: not all is kept")
	}
	for at := range 30 {
		d := filesFrom(30)
		for i := range d.Files {
			d.Files[i].Kept = len(d.Files[i].Text)
		}
		if !impl.AllKept(d) {
			t.Error("not all is kept")
		}
		d.Files[at].Kept--
		if impl.AllKept(d) {
			t.Errorf("all is kept, but for a byte at %d", at)
		}
	}
	if !impl.AllKept(diskOf(file("a", turning(20000), 20000))) || impl.AllKept(diskOf(file("a", turning(20000), 19999))) || impl.AllKept(diskOf(file("a", "1", 0))) {
		t.Error("AllKept of one file")
	}
	for i, d := range wrongDisks() {
		if impl.AllKept(d) {
			t.Errorf("all of wrong disk %d is kept", i)
		}
	}
	wrong := diskOf(file("b", "1", 1), file("a", "1", 1))
	if impl.AllKept(wrong) || impl.AllKept(diskOf(file("", "1", 1))) || impl.AllKept(diskOf(file("a", turning(20001), 20001))) {
		t.Error("AllKept of disks that are not right")
	}
}

func textsOfDisk(d impl.Disk) []string {
	var list []string
	for _, f := range d.Files {
		list = append(list, f.Name, f.Text)
	}
	return list
}

// A disk that is handed in may be a piece of a longer list, whose spare room is somebody else's.
func TestFilesWriteIntoNoSpareRoom(t *testing.T) {
	room := filesFrom(30).Files
	was := slices.Clone(room)
	acts := append(fewActs(), addAct("g", "x"), keepAct("f05"), dropAct("f03"), moveAct("f00", "f01"), addAct("f09", "x"))
	actRoom := append(slices.Clone(acts), acts...)
	wasActs := slices.Clone(actRoom)
	leftRoom := slices.Repeat([]int{3, -1}, 40)
	wasLeft := slices.Clone(leftRoom)
	for size := range 30 {
		d := impl.Disk{Files: room[:size]}
		for i, a := range acts {
			impl.DoAct(d, a)
			impl.DoActs(d, actRoom[i:i+3])
			impl.CutActs(d, actRoom[i:i+3], 2, leftRoom[:size])
		}
		impl.LoseDisk(d, leftRoom[:size/2])
		impl.DiskOk(d)
		impl.AllKept(d)
		impl.FileAt(d, "f29")
	}
	if !slices.Equal(room, was) || !slices.Equal(actRoom, wasActs) || !slices.Equal(leftRoom, wasLeft) {
		t.Error("an argument was written into")
	}
}

func TestFilesAnswerNewMemory(t *testing.T) {
	d := diskOf(file(strings.Repeat("a", 3), turning(40), 40), file(strings.Repeat("b", 3), turning(30), 30), file(strings.Repeat("c", 3), turning(20), 10))
	was := copyOf(d)
	acts := []impl.Act{addAct(strings.Repeat("d", 3), turning(25)), addAct("bbb", turning(12)), keepAct("ccc"), moveAct("aaa", strings.Repeat("e", 3)), dropAct("ccc"), addAct("bbb", "")}
	given := textsOfDisk(d)
	for _, a := range acts {
		given = append(given, a.Name, a.Text, a.To)
	}
	var answers []impl.Disk
	for _, a := range acts {
		e, ok := impl.DoAct(d, a)
		if !ok {
			t.Fatalf("DoAct of %v is false", a)
		}
		answers = append(answers, e)
	}
	all, count := impl.DoActs(d, acts)
	none, _ := impl.DoActs(d, nil)
	wrong, _ := impl.DoActs(diskOf(d.Files[1], d.Files[0]), acts)
	lost, _ := impl.LoseDisk(d, []int{40, 40, 15})
	cut, ok := impl.CutActs(d, acts, 4, []int{99, 99, 99, 99, 99})
	if count != len(acts) || !ok || len(wrong.Files) != 2 {
		t.Fatal("the acts are not done")
	}
	for _, e := range append(answers, all, none, wrong, lost, cut) {
		noneShares(t, "an answer and what was handed in", textsOfDisk(e), given)
		clear(e.Files)
	}
	text, _ := impl.FileAt(d, "aaa")
	noneShares(t, "FileAt and its disk", []string{text}, given)
	if !sameDisk(d, was) {
		t.Error("a disk goes with what was made of it")
	}
}

// Every call answers from what it is given alone: what was changed of an answer is not in the next one.
func TestFilesKeepNothing(t *testing.T) {
	d := diskOf(file("a", "12", 1))
	first, _ := impl.DoAct(d, addAct("a", "3"))
	first.Files[0] = file("z", "z", 1)
	impl.DoActs(d, []impl.Act{dropAct("a"), addAct("q", "q")})
	second, ok := impl.DoAct(d, addAct("a", "3"))
	if !ok || !sameDisk(second, diskOf(file("a", "123", 1))) {
		t.Errorf("DoAct again = %v, %v", second, ok)
	}
}

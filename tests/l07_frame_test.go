package tests

import (
	"math"
	"slices"
	"strings"
	"testing"

	"loop.example/g00284/impl"
)

// lengthByWords is a length of at most three bytes, as the chapter of words writes numbers.
func lengthByWords(n int) string {
	switch {
	case n < 128:
		return string([]byte{byte(n)})
	case n < 128*128:
		return string([]byte{byte(128 + n%128), byte(n / 128)})
	}
	return string([]byte{byte(128 + n%128), byte(128 + n/128%128), byte(n / 128 / 128)})
}

func sumInBytes(text string) string {
	sum := sumByWords(4294967295, text)
	return string([]byte{byte(sum / 16777216), byte(sum / 65536 % 256), byte(sum / 256 % 256), byte(sum % 256)})
}

// frameByWords has no limit: it also makes what would be a frame if the text were not too short or too long.
func frameByWords(text string) string {
	return lengthByWords(len(text)) + sumInBytes(text) + text
}

func framesByWords(records []string) string {
	var file strings.Builder
	for _, r := range records {
		file.WriteString(frameByWords(r))
	}
	return file.String()
}

// unframeByWords tries at each place, for each length whose bytes stand there, whether the file goes on with a frame of it.
func unframeByWords(file string) ([]string, int) {
	var records []string
	end := 0
	if len(file) > 20000 {
		return records, end
	}
search:
	for {
		rest := file[end:]
		for size := 1; size <= 9000 && size+5 <= len(rest); size++ {
			length := lengthByWords(size)
			if !strings.HasPrefix(rest, length) || len(rest) < len(length)+4+size {
				continue
			}
			text := rest[len(length)+4 : len(length)+4+size]
			if strings.HasPrefix(rest, frameByWords(text)) {
				records = append(records, text)
				end += len(length) + 4 + size
				continue search
			}
		}
		return records, end
	}
}

// hasRecords wants just these records, and the place behind the last of them.
func hasRecords(t *testing.T, what string, file string, want []string, end int) {
	t.Helper()
	got, at := impl.Unframe(file)
	if at != end || !slices.Equal(got, want) {
		t.Errorf("%s (%d bytes): %d records up to %d; want %d up to %d", what, len(file), len(got), at, len(want), end)
	}
}

// recordSizes are those at which the form of a length or the limit is another.
func recordSizes() []int {
	return []int{1, 2, 3, 4, 5, 126, 127, 128, 129, 255, 256, 300, 8999, 9000}
}

// smallRecords are of many kinds: bytes of 0 and 255, ones that look like frames or parts of them, and lengths of one and of two bytes.
func smallRecords() []string {
	return []string{
		"one", "\x00", "\xff", "\x00\x00\x00\x00\x00", "\xff\xff\xff\xff", "a", "a",
		frameByWords("one"), frameByWords("one")[:5], frameByWords("a") + frameByWords("b"), "\x01", "\x80\x01",
		turning(127), turning(128), allBytes(), strings.Repeat("\x00", 130), strings.Repeat("\xff", 129), "end",
	}
}

// fullFile is of MaxText bytes, all of them frames.
func fullFile() ([]string, string) {
	records := []string{turning(9000), strings.Repeat("\xff", 9000), turning(1982)}
	return records, framesByWords(records)
}

func TestFrameConstants(t *testing.T) {
	if impl.MaxRecord != 9000 {
		t.Error("a limit is not the document's")
	}
}

func TestFrameBytes(t *testing.T) {
	for _, c := range []struct{ text, want string }{
		{"\x00", "\x01\x81\xa5\xc7\xdc\x00"},
		{"\xff", "\x01\x00\xff\xff\xff\xff"},
		{"one", "\x03\x19\x0e\xcf\x17one"},
		{"\x00\x00\x00\x00", "\x04\x45\x27\x05\x51\x00\x00\x00\x00"},
		{"\xff\xff\xff\xff", "\x04\x00\x00\x00\x00\xff\xff\xff\xff"},
	} {
		if f, ok := impl.Frame(c.text); !ok || f != c.want {
			t.Errorf("Frame(%q) = %q, %v; want %q", c.text, f, ok, c.want)
		}
	}
}

// The three parts of a frame, each where it stands.
func TestFrameParts(t *testing.T) {
	for _, size := range recordSizes() {
		for _, text := range []string{turning(size), strings.Repeat("\x00", size), strings.Repeat("\xff", size)} {
			length := 1
			if size >= 128 {
				length = 2
			}
			f, ok := impl.Frame(text)
			if !ok || len(f) != length+4+size {
				t.Fatalf("Frame of %d bytes: %d bytes, %v", size, len(f), ok)
			}
			if v, _ := impl.VarText(size); f[:length] != v {
				t.Errorf("the length of %d bytes is %q", size, f[:length])
			}
			sum := impl.SumOf(text)
			for i := range 4 {
				if want := byte(sum >> (24 - 8*i)); f[length+i] != want {
					t.Errorf("byte %d of the sum of %d bytes is %d; want %d", i, size, f[length+i], want)
				}
			}
			if f[length+4:] != text {
				t.Errorf("the text of %d bytes is another in its frame", size)
			}
		}
	}
}

func TestFrameByWords(t *testing.T) {
	for size := 1; size <= 9000; size += 1 + size/40 {
		text := turning(size)
		if f, ok := impl.Frame(text); !ok || f != frameByWords(text) {
			t.Errorf("Frame of %d bytes: %d bytes, %v", size, len(f), ok)
		}
	}
	for _, text := range smallRecords() {
		if f, ok := impl.Frame(text); !ok || f != frameByWords(text) {
			t.Errorf("Frame(%.20q) = %.20q, %v", text, f, ok)
		}
	}
}

func TestFrameRefuses(t *testing.T) {
	for _, size := range []int{0, 9001, 9002, 16383, 16384, impl.MaxText, impl.MaxText + 1, 3 * impl.MaxText} {
		if f, ok := impl.Frame(turning(size)); ok || f != "" {
			t.Errorf("Frame of %d bytes: %d bytes, %v; want nothing", size, len(f), ok)
		}
	}
}

func TestUnframeOfNothing(t *testing.T) {
	hasRecords(t, "no file", "", nil, 0)
}

// One record of every form of a length, alone, twice, and many times.
func TestUnframeOfOneTwoAndMany(t *testing.T) {
	for _, size := range recordSizes() {
		text := turning(size)
		f, ok := impl.Frame(text)
		if !ok {
			t.Fatalf("Frame of %d bytes is false", size)
		}
		hasRecords(t, "one frame", f, []string{text}, len(f))
		hasRecords(t, "two frames", f+f, []string{text, text}, 2*len(f))
	}
	for _, count := range []int{3, 10, 500, 3333} {
		f, _ := impl.Frame("x")
		hasRecords(t, "many frames", strings.Repeat(f, count), slices.Repeat([]string{"x"}, count), 6*count)
	}
}

// cutsToWholeOnes cuts the file of these records at each of the places, which ascend, as far as it has them: just the records of the frames that are whole come back.
func cutsToWholeOnes(t *testing.T, records []string, places []int) {
	t.Helper()
	file, ends := "", []int{}
	for _, r := range records {
		f, ok := impl.Frame(r)
		if !ok {
			t.Fatalf("Frame of %d bytes is false", len(r))
		}
		file += f
		ends = append(ends, len(file))
	}
	hasRecords(t, "the whole file", file, records, len(file))
	for _, cut := range places {
		if cut > len(file) {
			break
		}
		whole, end := 0, 0
		for whole < len(ends) && ends[whole] <= cut {
			end = ends[whole]
			whole++
		}
		hasRecords(t, "a file that is cut", file[:cut], records[:whole], end)
	}
}

func placesUpTo(last int) []int {
	list := make([]int, last+1)
	for i := range list {
		list[i] = i
	}
	return list
}

func TestRecordsComeBackFromTheirFrames(t *testing.T) {
	var records []string
	for size := 1; size < 190; size++ {
		records = append(records, turning(size + 7)[7:])
	}
	cutsToWholeOnes(t, records, nil)
	slices.Reverse(records)
	cutsToWholeOnes(t, records, nil)
	full, _ := fullFile()
	cutsToWholeOnes(t, full, nil)
	cutsToWholeOnes(t, smallRecords(), nil)
}

func TestOfAFileThatIsCutJustTheWholeOnesComeBack(t *testing.T) {
	cutsToWholeOnes(t, smallRecords(), placesUpTo(2500))
	var records []string
	for size := 1; size < 40; size++ {
		records = append(records, strings.Repeat("\x00", size), turning(size), strings.Repeat("\xff", size))
	}
	cutsToWholeOnes(t, records, placesUpTo(4000))
	full, _ := fullFile()
	cutsToWholeOnes(t, full, placesUpTo(impl.MaxText))
}

// brokenPieces are no whole frames, whatever comes ahead of them.
func brokenPieces() map[string]string {
	long := frameByWords(turning(200))
	return map[string]string{
		"one byte":                     "\x05",
		"one byte 0":                   "\x00",
		"one byte 255":                 "\xff",
		"a length of two bytes, cut":   long[:1],
		"a length without a sum":       long[:2],
		"a part of the sum":            long[:4],
		"a sum less one byte":          long[:5],
		"a sum without a text":         long[:6],
		"a part of the text":           long[:100],
		"a text less one byte":         long[:205],
		"a sum that is 0":              "\x03\x00\x00\x00\x00one",
		"a sum the other way round":    "\x03\x17\xcf\x0e\x19one",
		"a sum behind the text":        "\x03one\x19\x0e\xcf\x17",
		"a sum of the length, too":     "\x03" + sumInBytes("\x03one") + "one",
		"a length of 0":                frameByWords(""),
		"a length of 0, with a text":   "\x00" + sumInBytes("one") + "one",
		"a length of 9001":             frameByWords(turning(9001)),
		"a length of 10000":            frameByWords(turning(10000)),
		"a longer form of 3":           "\x83\x00" + sumInBytes("one") + "one",
		"a much longer form of 3":      "\x83\x80\x80\x00" + sumInBytes("one") + "one",
		"a longer form of 0":           "\x80\x00" + sumInBytes(""),
		"a longer form of 200":         "\xc8\x81\x00" + sumInBytes(turning(200)) + turning(200),
		"a length that is not whole":   "\x80",
		"a length that goes on":        "\xff\xff\xff",
		"a length that never ends":     strings.Repeat("\xff", 40),
		"a length of nothing, for now": strings.Repeat("\x80", 40),
		"a length past MaxNumber":      "\x81\x94\xeb\xdc\x03" + sumInBytes("one") + "one",
		"the greatest length":          "\x80\x94\xeb\xdc\x03" + sumInBytes("one") + "one",
		"a length past 64 bits":        strings.Repeat("\xff", 9) + "\x7f" + sumInBytes("one") + "one",
		"no length":                    sumInBytes("one") + "one",
		"zeros":                        strings.Repeat("\x00", 50),
		"a text":                       "some text that is no frame",
	}
}

// What is broken ends the records: those ahead of it come, it and whatever stands behind it does not.
func TestUnframeStopsAtWhatIsBroken(t *testing.T) {
	aheads := [][]string{nil, {"one"}, {"one", "two"}, {"\x00", "\xff", turning(300)}, {turning(9000)}}
	behind := framesByWords([]string{"behind", "it", turning(130)})
	for what, piece := range brokenPieces() {
		for _, ahead := range aheads {
			file := framesByWords(ahead)
			hasRecords(t, what, file+piece, ahead, len(file))
			hasRecords(t, what+", with frames behind", file+piece+behind, ahead, len(file))
		}
	}
}

// A torn frame takes the bytes of what comes behind it for its own, but its sum tells.
func TestUnframeOfATornFrameWithOthersBehind(t *testing.T) {
	ahead := []string{"ahead", turning(140)}
	first := framesByWords(ahead)
	for _, record := range []string{"torn", turning(127), turning(128), turning(400), strings.Repeat("\x00", 50)} {
		torn := frameByWords(record)
		for cut := 1; cut < len(torn); cut++ {
			hasRecords(t, "a torn frame between others", first+torn[:cut]+framesByWords([]string{"behind", turning(500)}), ahead, len(first))
		}
	}
}

// turnsAreTold turns the bytes of the frame at a place of the list, at these places of it: what comes ahead is answered, and no more.
func turnsAreTold(t *testing.T, records []string, turnedAt int, places []int, bys []byte) {
	t.Helper()
	ahead := framesByWords(records[:turnedAt])
	frame := frameByWords(records[turnedAt])
	behind := framesByWords(records[turnedAt+1:])
	for _, at := range places {
		for _, by := range bys {
			hasRecords(t, "a turned byte", ahead+turned(frame, at, by)+behind, records[:turnedAt], len(ahead))
		}
	}
}

func TestOneByteTurned(t *testing.T) {
	every := make([]byte, 255)
	for i := range every {
		every[i] = byte(i + 1)
	}
	records := []string{"first", turning(150), "\x00", turning(127), "\xff\xff\xff\xff", "last"}
	for at, r := range records {
		turnsAreTold(t, records, at, placesUpTo(len(frameByWords(r))-1), every)
	}
	for at := range 3 {
		big := []string{"first", turning(500), turning(260)}
		big[at] = turning(impl.MaxRecord)
		turnsAreTold(t, big, at, []int{0, 1, 2, 3, 4, 5, 6, 7, 4500, 9004, 9005}, []byte{1, 16, 128, 255})
	}
}

// Two bytes that changed places are told, too, where they are not alike.
func TestTwoBytesThatChangedPlaces(t *testing.T) {
	records := []string{"ahead", turning(60), "behind"}
	ahead, frame, behind := frameByWords(records[0]), frameByWords(records[1]), frameByWords(records[2])
	for at := range len(frame) - 1 {
		if frame[at] == frame[at+1] {
			continue
		}
		other := frame[:at] + frame[at+1:at+2] + frame[at:at+1] + frame[at+2:]
		hasRecords(t, "two bytes that changed places", ahead+other+behind, records[:1], len(ahead))
	}
}

// No whole frame is looked for elsewhere than right behind the one ahead.
func TestUnframeSkipsNothing(t *testing.T) {
	one, two := frameByWords("one"), frameByWords("two")
	for b := range 256 {
		gap := string([]byte{byte(b)})
		hasRecords(t, "a byte ahead", gap+one+two, nil, 0)
		hasRecords(t, "a byte between", one+gap+two, []string{"one"}, len(one))
		hasRecords(t, "a byte behind", one+two+gap, []string{"one", "two"}, len(one+two))
	}
	hasRecords(t, "a frame without its first byte", one[1:]+two, nil, 0)
	hasRecords(t, "a frame without its last byte", one[:7]+two, nil, 0)
}

// A record may be frames itself: it comes back as it is, not as what is in it.
func TestFramesInFrames(t *testing.T) {
	inner := framesByWords([]string{"a", "b", "c"})
	f, _ := impl.Frame(inner)
	hasRecords(t, "frames in a frame", f, []string{inner}, len(f))
	again, _ := impl.Frame(f)
	hasRecords(t, "a frame in a frame in a frame", again+f, []string{f, inner}, len(again)+len(f))
}

func TestUnframeOfRecordsAtTheLimit(t *testing.T) {
	greatest := frameByWords(turning(9000))
	hasRecords(t, "a record of MaxRecord bytes", greatest, []string{turning(9000)}, 9006)
	hasRecords(t, "two of them", greatest+greatest, []string{turning(9000), turning(9000)}, 18012)
	for _, size := range []int{9001, 9002, 12000, 16383, 16384, 19993} {
		hasRecords(t, "a record past MaxRecord", frameByWords(turning(size)), nil, 0)
	}
	small := frameByWords("small")
	hasRecords(t, "one past MaxRecord behind a small one", small+frameByWords(turning(9001)), []string{"small"}, len(small))
}

func TestUnframeOfFilesAtTheLimit(t *testing.T) {
	records, full := fullFile()
	if len(full) != impl.MaxText {
		t.Fatalf("the full file has %d bytes", len(full))
	}
	hasRecords(t, "a file of MaxText bytes", full, records, 20000)
	for _, b := range []string{"\x00", "\x01", "\xff", frameByWords("more"), full} {
		hasRecords(t, "a file past MaxText", full+b, nil, 0)
	}
	short := framesByWords(records[:2])
	for _, c := range []struct {
		size, end int
		want      []string
	}{
		{19999, 18012, records[:2]},
		{20000, 18012, records[:2]},
		{20001, 0, nil},
		{20002, 0, nil},
		{40000, 0, nil},
	} {
		hasRecords(t, "frames with zeros behind", short+strings.Repeat("\x00", c.size-len(short)), c.want, c.end)
	}
	small := frameByWords("x")
	hasRecords(t, "as many frames as go", strings.Repeat(small, 3333), slices.Repeat([]string{"x"}, 3333), 19998)
	hasRecords(t, "one frame too many", strings.Repeat(small, 3334), nil, 0)
	hasRecords(t, "a long file of nothing", strings.Repeat("\x00", math.MaxUint16), nil, 0)
}

func TestUnframeOfAllShortFiles(t *testing.T) {
	for a := range 256 {
		hasRecords(t, "one byte", string([]byte{byte(a)}), nil, 0)
		for b := range 256 {
			hasRecords(t, "two bytes", string([]byte{byte(a), byte(b)}), nil, 0)
			short := frameByWords(string([]byte{byte(a), byte(b)}))
			hasRecords(t, "a record of two bytes", short, []string{string([]byte{byte(a), byte(b)})}, 7)
			hasRecords(t, "a record of two bytes, torn", short[:6], nil, 0)
		}
	}
}

// drawnPiece is mostly a frame; else a part of one, one with a turned byte, or any bytes.
func drawnPiece(state *uint64) string {
	text := make([]byte, 1+drawn(state, []int{3, 20, 200}[drawn(state, 3)]))
	for i := range text {
		text[i] = []byte{0, 1, 127, 128, 255, byte(drawn(state, 256))}[drawn(state, 6)]
	}
	frame := frameByWords(string(text))
	switch drawn(state, 12) {
	case 0:
		return frame[:drawn(state, len(frame))]
	case 1:
		return turned(frame, drawn(state, len(frame)), byte(1+drawn(state, 255)))
	case 2:
		return string(text)
	}
	return frame
}

func TestUnframeOfDrawnFiles(t *testing.T) {
	state := uint64(7)
	for range 1500 {
		file := ""
		for range drawn(&state, 9) {
			file += drawnPiece(&state)
		}
		want, end := unframeByWords(file)
		hasRecords(t, "a drawn file", file, want, end)
		got, _ := impl.Unframe(file)
		if again := framesByWords(got); again != file[:end] {
			t.Fatalf("the records of a drawn file make another beginning of it")
		}
	}
}

func TestFramesAnswerNewMemory(t *testing.T) {
	text := turning(300)
	f, _ := impl.Frame(text)
	noneShares(t, "a frame and its text", []string{f}, []string{text})
	file := f + f + f[:9]
	wasText, wasFile := strings.Clone(text), strings.Clone(file)
	records, end := impl.Unframe(file)
	if len(records) != 2 || end != 2*len(f) {
		t.Fatalf("Unframe: %d records up to %d", len(records), end)
	}
	noneShares(t, "records and their file", records, []string{file})
	noneShares(t, "one record and the other", records[:1], records[1:])
	if text != wasText || file != wasFile {
		t.Error("an argument was written into")
	}
}

// Every call answers from what it is given alone: what was changed of an answer is not in the next one.
func TestFramesKeepNothing(t *testing.T) {
	records := []string{"one", "two", "three"}
	file := framesByWords(records)
	first, _ := impl.Unframe(file)
	clear(first)
	_ = append(first[:1], "other")
	impl.Unframe(frameByWords("other") + "torn")
	impl.Frame(turning(9001))
	hasRecords(t, "a file once more", file, records, len(file))
	none, _ := impl.Unframe("")
	_ = append(none, "more")
	hasRecords(t, "no file once more", "", nil, 0)
}

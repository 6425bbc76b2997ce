package tests

import (
	"encoding/binary"
	"hash/crc32"
	"math"
	"slices"
	"strings"
	"testing"

	"loop.example/g00141/impl"
)

// rawFrame writes a frame without asking whether it is right.
func rawFrame(kind byte, size uint32, body string) string {
	sealed := binary.LittleEndian.AppendUint32([]byte{kind}, size)
	sealed = append(sealed, body...)
	return string(binary.LittleEndian.AppendUint32(sealed, crc32.ChecksumIEEE(sealed)))
}

func turnBit(s string, bit int) string {
	b := []byte(s)
	b[bit/8] ^= 1 << (bit % 8)
	return string(b)
}

func checkRead(t *testing.T, what string, data string, frames []impl.Frame, size int, why int64) {
	t.Helper()
	got, n, code := impl.ReadFrames(data)
	if !slices.Equal(got, frames) || n != int64(size) || code != why {
		t.Errorf("%s: %d frames, %d bytes, code %d; wanted %d, %d, %d", what, len(got), n, code, len(frames), size, why)
	}
}

func TestCrc(t *testing.T) {
	if c := impl.Crc("123456789"); c != 0xcbf43926 {
		t.Errorf("%#x", c)
	}
	for n := range 600 {
		for _, data := range []string{mixedBytes(n), strings.Repeat("\x00", n), strings.Repeat("\xff", n)} {
			if got, want := impl.Crc(data), crc32.ChecksumIEEE([]byte(data)); got != want {
				t.Fatalf("Crc of %d bytes is %#x, not %#x", n, got, want)
			}
		}
	}
	for c := range 256 {
		data := string([]byte{byte(c)})
		if got, want := impl.Crc(data), crc32.ChecksumIEEE([]byte(data)); got != want {
			t.Fatalf("Crc of the byte %d is %#x, not %#x", c, got, want)
		}
	}
}

func TestWriteFrameKinds(t *testing.T) {
	for _, r := range []struct {
		kind int64
		ok   bool
	}{
		{0, false}, {1, true}, {2, true}, {99, true}, {100, true}, {101, false}, {-1, false}, {255, false}, {256, false},
		{257, false}, {-255, false}, {1<<32 + 1, false}, {math.MaxInt64, false}, {math.MinInt64, false},
	} {
		f := impl.Frame{Kind: r.kind, Body: "body"}
		got := impl.WriteFrame(f)
		if !r.ok {
			if got != "" {
				t.Errorf("Kind %d is written as %q", r.kind, got)
			}
			continue
		}
		if want := rawFrame(byte(r.kind), 4, "body"); got != want {
			t.Errorf("Kind %d is written as %q, not %q", r.kind, got, want)
		}
		checkRead(t, "a Kind", got, []impl.Frame{f}, len(got), impl.FrEnd)
	}
}

func TestWriteFrameBodies(t *testing.T) {
	for _, n := range []int{0, 1, 255, 256, 257, 19999, 20000} {
		f := impl.Frame{Kind: 7, Body: mixedBytes(n)}
		got := impl.WriteFrame(f)
		if got != rawFrame(7, uint32(n), f.Body) || len(got) != n+9 {
			t.Errorf("a Body of %d bytes is not written as told", n)
		}
		checkRead(t, "a Body", got, []impl.Frame{f}, len(got), impl.FrEnd)
	}
	for _, n := range []int{20001, 65536, 200000} {
		if got := impl.WriteFrame(impl.Frame{Kind: 7, Body: mixedBytes(n)}); got != "" {
			t.Errorf("a Body of %d bytes is written", n)
		}
	}
}

func TestFramesComeBackWhateverStandsBehind(t *testing.T) {
	frames := []impl.Frame{{Kind: 1}, {Kind: 100, Body: "x"}, {Kind: 50, Body: mixedBytes(20000)}, {Kind: 1}, {Kind: 3, Body: "\x00\x00"}}
	data := ""
	for _, f := range frames {
		data += impl.WriteFrame(f)
	}
	half := impl.WriteFrame(impl.Frame{Kind: 9, Body: "half"})
	for _, r := range []struct {
		behind string
		why    int64
	}{
		{"", impl.FrEnd},
		{"\x01", impl.FrShort},
		{"\x00", impl.FrKind},
		{half[:len(half)-1], impl.FrShort},
		{turnBit(half, 8*6), impl.FrCrc},
		{"\x01\x21\x4e\x00\x00", impl.FrLong},
		{turnBit(half, 8*6) + half, impl.FrCrc},
		{strings.Repeat("\xff", 300), impl.FrKind},
	} {
		checkRead(t, "behind", data+r.behind, frames, len(data), r.why)
	}
}

func TestFaultsOfAFrame(t *testing.T) {
	whole := rawFrame(5, 3, "abc")
	long := rawFrame(5, 20001, mixedBytes(20001))
	for _, r := range []struct {
		what, data string
		why        int64
	}{
		{"nothing", "", impl.FrEnd},
		{"a Kind alone", "\x05", impl.FrShort},
		{"four bytes", whole[:4], impl.FrShort},
		{"five bytes", whole[:5], impl.FrShort},
		{"eight bytes", whole[:8], impl.FrShort},
		{"eight bytes of an empty one", rawFrame(5, 0, "")[:8], impl.FrShort},
		{"all but one byte", whole[:len(whole)-1], impl.FrShort},
		{"a Kind 0", rawFrame(0, 3, "abc"), impl.FrKind},
		{"a Kind 101", rawFrame(101, 3, "abc"), impl.FrKind},
		{"a Kind 255", rawFrame(255, 3, "abc"), impl.FrKind},
		{"a Body too long", long, impl.FrLong},
		{"a length of all ones", "\x05\xff\xff\xff\xff", impl.FrLong},
		{"a length with its highest bit", "\x05\x03\x00\x00\x80abc" + whole[8:], impl.FrLong},
		{"another CRC", whole[:8] + "\x00\x00\x00\x00", impl.FrCrc},
		{"a CRC turned round", whole[:8] + string([]byte{whole[11], whole[10], whole[9], whole[8]}), impl.FrCrc},
	} {
		checkRead(t, r.what, r.data, nil, 0, r.why)
	}
}

func TestTwoFaultsOfAFrameAtOnce(t *testing.T) {
	for _, r := range []struct {
		what, data string
		why        int64
	}{
		{"Kind and short", "\x00", impl.FrKind},
		{"Kind and short", "\x65\x00\x00\x00", impl.FrKind},
		{"Kind and long", "\x00\xff\xff\xff\xff", impl.FrKind},
		{"Kind and CRC", "\x65\x00\x00\x00\x00\x00\x00\x00\x00", impl.FrKind},
		{"Kind, long, short and CRC", "\xff\x21\x4e\x00\x00\x00\x00\x00\x00", impl.FrKind},
		{"long and short, of five bytes", "\x01\x21\x4e\x00\x00", impl.FrLong},
		{"long and short, of eight bytes", "\x01\x21\x4e\x00\x00abc", impl.FrLong},
		{"long, but four bytes only", "\x01\xff\xff\xff", impl.FrShort},
		{"not long, of five bytes", "\x01\x20\x4e\x00\x00", impl.FrShort},
		{"long and CRC", "\x01\x21\x4e\x00\x00" + mixedBytes(20001) + "\x00\x00\x00\x00", impl.FrLong},
		{"short and CRC", "\x01\x03\x00\x00\x00abc\x00\x00\x00", impl.FrShort},
	} {
		checkRead(t, r.what, r.data, nil, 0, r.why)
	}
}

func TestEachTurnedBitIsFound(t *testing.T) {
	first := impl.Frame{Kind: 1, Body: "ahead"}
	ahead := impl.WriteFrame(first)
	for _, body := range []string{"", "a", "some body", mixedBytes(70)} {
		f := impl.Frame{Kind: 38, Body: body}
		s := impl.WriteFrame(f)
		for bit := range 8 * len(s) {
			if at := bit / 8; at >= 1 && at <= 4 {
				continue
			}
			got, n, why := impl.ReadFrames(ahead + turnBit(s, bit) + s)
			if !slices.Equal(got, []impl.Frame{first}) || n != int64(len(ahead)) {
				t.Errorf("bit %d of a frame with %q is not found", bit, body)
			}
			if bit >= 8 && why != impl.FrCrc || bit < 8 && why != impl.FrCrc && why != impl.FrKind {
				t.Errorf("bit %d of a frame with %q: %d", bit, body, why)
			}
		}
	}
	s := impl.WriteFrame(impl.Frame{Kind: 38, Body: mixedBytes(20000)})
	for _, bit := range []int{40, 41, 8 * 10000, 8*20004 + 7, 8*20005 + 0, 8*20008 + 7} {
		checkRead(t, "a bit of a long frame", turnBit(s, bit), nil, 0, impl.FrCrc)
	}
}

func TestManyFrames(t *testing.T) {
	one := impl.Frame{Kind: 4, Body: "q"}
	s := impl.WriteFrame(one)
	for _, r := range []struct {
		count  int
		behind string
		read   int
		why    int64
	}{
		{1999, "", 1999, impl.FrEnd},
		{1999, "\x04", 1999, impl.FrShort},
		{2000, "", 2000, impl.FrEnd},
		{2000, "\x04", 2000, impl.FrMany},
		{2000, "\x00", 2000, impl.FrMany},
		{2000, "\x01\xff\xff\xff\xff", 2000, impl.FrMany},
		{2001, "", 2000, impl.FrMany},
		{4100, "\x00", 2000, impl.FrMany},
	} {
		want := slices.Repeat([]impl.Frame{one}, r.read)
		checkRead(t, "many", strings.Repeat(s, r.count)+r.behind, want, r.read*len(s), r.why)
	}
}

func TestPutNumber(t *testing.T) {
	for n, want := range map[int64]string{
		0: "\x00", 1: "\x01", 127: "\x7f", 128: "\x80\x01", 129: "\x81\x01", 300: "\xac\x02", 16383: "\xff\x7f", 16384: "\x80\x80\x01",
		impl.MaxNumber: "\x80\xa0\x94\xa5\x8d\x1d", impl.MaxNumber - 1: "\xff\x9f\x94\xa5\x8d\x1d",
		-1: "", -128: "", impl.MaxNumber + 1: "", math.MaxInt64: "", math.MinInt64: "",
	} {
		if got := impl.PutNumber(n); got != want {
			t.Errorf("PutNumber(%d) is %q, not %q", n, got, want)
		}
	}
}

func checkNumber(t *testing.T, n int64) {
	t.Helper()
	s := impl.PutNumber(n)
	if want := string(binary.AppendUvarint(nil, uint64(n))); s != want {
		t.Errorf("PutNumber(%d) is %q, not %q", n, s, want)
	}
	for _, behind := range []string{"", "\x00", "\x80", "\xff\xff\xff\xff\xff\xff\xff", "text"} {
		if got, rest, ok := impl.TakeNumber(s + behind); got != n || rest != behind || !ok {
			t.Errorf("%d with %q behind it comes back as %d, %q, %v", n, behind, got, rest, ok)
		}
	}
	for i := range len(s) {
		if got, rest, ok := impl.TakeNumber(s[:i]); got != 0 || rest != "" || ok {
			t.Errorf("the first %d bytes of %d are read: %d, %q, %v", i, n, got, rest, ok)
		}
	}
}

func TestNumbersComeBack(t *testing.T) {
	for n := range int64(1000) {
		checkNumber(t, n)
		checkNumber(t, impl.MaxNumber-n)
	}
	for n := int64(1); n < impl.MaxNumber; n *= 2 {
		checkNumber(t, n)
		checkNumber(t, n-1)
		checkNumber(t, n+1)
	}
	for n := int64(3); n < impl.MaxNumber; n = n*7 + 5 {
		checkNumber(t, n)
	}
}

func TestTakeNumberRefuses(t *testing.T) {
	for _, s := range []string{
		"", "\x80", "\xff", "\x80\x80", "\xff\xff\xff\xff\xff",
		"\x80\x00", "\x81\x00", "\xff\x00", "\x80\x80\x00", "\x80\x00text", "\x81\x80\x80\x80\x80\x00", "\x80\x80\x80\x80\x80\x80\x00",
		"\x81\xa0\x94\xa5\x8d\x1d", "\x80\xa0\x94\xa5\x8d\x1e", "\xff\xff\xff\xff\xff\x7f", "\x80\x80\x80\x80\x80\x7f",
		"\x80\x80\x80\x80\x80\x80\x01", "\x80\xa0\x94\xa5\x8d\x9d\x00", "\xff\xff\xff\xff\xff\xff\xff\xff\x7f",
		"\x80\x80\x80\x80\x80\x80\x80\x80\x80\x02", "\x85\x80\x80\x80\x80\x80\x80\x80\x80\x80\x01", strings.Repeat("\x80", 100) + "\x01", strings.Repeat("\xff", 300),
	} {
		if n, rest, ok := impl.TakeNumber(s); n != 0 || rest != "" || ok {
			t.Errorf("TakeNumber(%q) is %d, %q, %v", s, n, rest, ok)
		}
	}
}

func TestTextsComeBack(t *testing.T) {
	for _, n := range []int{0, 1, 2, 127, 128, 129, 16383, 16384, 19999, 20000} {
		s := mixedBytes(n)
		put := impl.PutText(s)
		if put != string(binary.AppendUvarint(nil, uint64(n)))+s {
			t.Errorf("a text of %d bytes is not written as told", n)
		}
		for _, behind := range []string{"", "\x00", "\xff", "behind", mixedBytes(30000)} {
			if got, rest, ok := impl.TakeText(put + behind); got != s || rest != behind || !ok {
				t.Errorf("a text of %d bytes with %d behind it does not come back", n, len(behind))
			}
		}
		for _, short := range []string{put[:len(put)-1], put[:len(put)/2], ""} {
			if got, rest, ok := impl.TakeText(short); got != "" || rest != "" || ok {
				t.Errorf("%d bytes of a text of %d are read", len(short), n)
			}
		}
	}
}

func TestTextsThatAreNone(t *testing.T) {
	for _, n := range []int{20001, 20128, 65536, 200000} {
		if got := impl.PutText(mixedBytes(n)); got != "" {
			t.Errorf("a text of %d bytes is put", n)
		}
	}
	long := string(binary.AppendUvarint(nil, 20001)) + mixedBytes(20001)
	for _, s := range []string{
		"", "\x01", "\x03hi", "\x80", "\x80\x00", "\x82\x00hi", long, long[:100], long + "more",
		impl.PutNumber(impl.MaxNumber) + "hi", impl.PutNumber(1<<32+2) + "hi", "\xff\xff\xff\xff\xff\x7fhi", "\xff\xff\xff\xff\xff\xff\xff\xff\xff\x01hi",
	} {
		if got, rest, ok := impl.TakeText(s); got != "" || rest != "" || ok {
			t.Errorf("a text of %d bytes is taken: %d, %d, %v", len(s), len(got), len(rest), ok)
		}
	}
}

func TestFieldsBehindOneAnother(t *testing.T) {
	data := impl.PutNumber(300) + impl.PutText("") + impl.PutText("ab") + impl.PutNumber(0)
	n, rest, ok := impl.TakeNumber(data)
	if n != 300 || !ok {
		t.Fatal(n, ok)
	}
	empty, rest, ok := impl.TakeText(rest)
	if empty != "" || !ok {
		t.Fatal(empty, ok)
	}
	text, rest, ok := impl.TakeText(rest)
	if text != "ab" || !ok {
		t.Fatal(text, ok)
	}
	if n, rest, ok = impl.TakeNumber(rest); n != 0 || rest != "" || !ok {
		t.Fatal(n, rest, ok)
	}
}

func TestFrameAnswersAreTheirOwn(t *testing.T) {
	want := []impl.Frame{{Kind: 1, Body: "one"}, {Kind: 2, Body: "two"}, {Kind: 3}}
	data := ""
	for _, f := range want {
		data += impl.WriteFrame(f)
	}
	first, _, _ := impl.ReadFrames(data)
	other, _, _ := impl.ReadFrames(data)
	for i := range first {
		first[i] = impl.Frame{Kind: 99, Body: "changed"}
	}
	_ = append(first, impl.Frame{Kind: 98})
	if !slices.Equal(other, want) {
		t.Error("an answer that was changed changed another")
	}
	checkRead(t, "once more", data, want, len(data), impl.FrEnd)
	for _, f := range want {
		if impl.WriteFrame(f) != impl.WriteFrame(f) || impl.PutText(f.Body) != impl.PutText(f.Body) || impl.Crc(f.Body) != impl.Crc(f.Body) {
			t.Error("the same arguments, another answer")
		}
	}
}

package tests

import (
	"crypto/sha256"
	"encoding/binary"
	"encoding/hex"
	"math"
	"math/bits"
	"slices"
	"strings"
	"testing"

	"loop.example/g00141/impl"
)

// edgeSizes are where blocks are just full, and where the length no longer fits in.
var edgeSizes = []int{0, 1, 54, 55, 56, 57, 63, 64, 65, 118, 119, 120, 121, 127, 128, 129, 1000}

// mixedBytes is a text of n bytes in which all bytes come up sooner or later.
func mixedBytes(n int) string {
	b := make([]byte, n)
	for i := range b {
		b[i] = byte(i*167 + i/256*13 + 91)
	}
	return string(b)
}

func wordsOf(data string) []uint32 {
	sum := sha256.Sum256([]byte(data))
	var words []uint32
	for i := 0; i < len(sum); i += 4 {
		words = append(words, binary.BigEndian.Uint32(sum[i:]))
	}
	return words
}

func digestOf(data string) string {
	sum := sha256.Sum256([]byte(data))
	return "sha256:" + hex.EncodeToString(sum[:])
}

func TestRotateEdges(t *testing.T) {
	for _, r := range []struct {
		x    uint32
		n    int64
		want uint32
	}{
		{1, 0, 1},
		{1, 1, 0x80000000},
		{1, 31, 2},
		{1, 32, 1},
		{1, 33, 0x80000000},
		{1, -1, 2},
		{1, -31, 0x80000000},
		{1, -32, 1},
		{1, -33, 2},
		{0x12345678, 8, 0x78123456},
		{0x12345678, -8, 0x34567812},
		{0x12345678, 1 << 40, 0x12345678},
		{0x12345678, 1<<40 + 4, 0x81234567},
		{0x12345678, math.MaxInt64, 0x2468acf0},
		{0x12345678, math.MinInt64, 0x12345678},
		{0x12345678, math.MinInt64 + 1, 0x091a2b3c},
		{0, 17, 0},
		{math.MaxUint32, 17, math.MaxUint32},
	} {
		if got := impl.Rotate(r.x, r.n); got != r.want {
			t.Errorf("Rotate(%#x, %d) is %#x, not %#x", r.x, r.n, got, r.want)
		}
	}
}

func TestRotateComesBack(t *testing.T) {
	for _, x := range []uint32{0, 1, 0x80000000, 0xdeadbeef, 0x00ff00ff, math.MaxUint32} {
		for n := int64(-100); n <= 100; n++ {
			turned := impl.Rotate(x, n)
			if back := impl.Rotate(turned, 32-n); back != x {
				t.Errorf("%#x by %d and by %d is %#x", x, n, 32-n, back)
			}
			if want := bits.RotateLeft32(x, int(-n)); turned != want {
				t.Errorf("Rotate(%#x, %d) is %#x, not %#x", x, n, turned, want)
			}
		}
	}
}

func TestSumAndDigestOfEachSize(t *testing.T) {
	sizes := slices.Clone(edgeSizes)
	for n := range 260 {
		sizes = append(sizes, n)
	}
	sizes = append(sizes, 20000, 65536, 200000)
	for _, n := range sizes {
		for _, data := range []string{mixedBytes(n), strings.Repeat("\x00", n), strings.Repeat("\xff", n)} {
			if got := impl.Sum(data); !slices.Equal(got, wordsOf(data)) {
				t.Errorf("Sum of %d bytes is %x", n, got)
			}
			if got := impl.Digest(data); got != digestOf(data) {
				t.Errorf("Digest of %d bytes is %s", n, got)
			}
		}
	}
}

func TestDigestsOfKnownTexts(t *testing.T) {
	for data, want := range map[string]string{
		"":    "sha256:e3b0c44298fc1c149afbf4c8996fb92427ae41e4649b934ca495991b7852b855",
		"abc": "sha256:ba7816bf8f01cfea414140de5dae2223b00361a396177a9cb410ff61f20015ad",
		"abcdbcdecdefdefgefghfghighijhijkijkljklmklmnlmnomnopnopq": "sha256:248d6a61d20638b8e5c026930c3e6039a33ce45964ff2167f6ecedd419db06c1",
		"\x00": "sha256:6e340b9cffb37a989ca544e6bb780a2c78901d3fb33738768511a30617afa01d",
	} {
		if got := impl.Digest(data); got != want {
			t.Errorf("Digest(%q) is %s", data, got)
		}
	}
}

func TestDigitsAreThoseOfTheWords(t *testing.T) {
	for _, n := range edgeSizes {
		data := mixedBytes(n)
		words, d := impl.Sum(data), impl.Digest(data)
		if len(words) != 8 || !impl.DigestOk(d) {
			t.Fatalf("of %d bytes: %x and %s", n, words, d)
		}
		for k := range int64(64) {
			want := int64(words[k/8] >> (28 - 4*(k%8)) & 15)
			if got := impl.Nibble(d, k); got != want {
				t.Errorf("of %d bytes, Nibble %d is %d, not %d", n, k, got, want)
			}
		}
	}
}

func TestDigestOkForms(t *testing.T) {
	const digits = "0123456789abcdef0123456789abcdef0123456789abcdef0123456789abcdef"
	for d, want := range map[string]bool{
		"sha256:" + digits:                          true,
		"sha256:" + strings.Repeat("0", 64):         true,
		"sha256:" + strings.Repeat("f", 64):         true,
		"sha256:" + digits[1:]:                      false,
		"sha256:" + digits + "0":                    false,
		"sha256:" + digits + "\n":                   false,
		"sha256:" + digits + digits:                 false,
		"sha256:A" + digits[1:]:                     false,
		"sha256:" + digits[:63] + "F":               false,
		"sha256:" + digits[:63] + "g":               false,
		"sha256:" + digits[:63] + "/":               false,
		"sha256:" + digits[:63] + ":":               false,
		"sha256:" + digits[:63] + "`":               false,
		"sha256:" + digits[:63] + "\x00":            false,
		"sha256:" + digits[:62] + "é":               false,
		"sha256:" + digits[:31] + " " + digits[32:]: false,
		"sha256:":               false,
		"":                      false,
		digits:                  false,
		"SHA256:" + digits:      false,
		"sha512:" + digits:      false,
		"sha256;" + digits:      false,
		"sha256" + digits:       false,
		" sha256:" + digits:     false,
		"sha256::" + digits:     false,
		"0000000" + digits:      false,
		"sha256:" + digits[:63]: false,
	} {
		if got := impl.DigestOk(d); got != want {
			t.Errorf("DigestOk(%q) is %v", d, got)
		}
	}
}

func TestDigestOkOfEachByte(t *testing.T) {
	d := digestOf("abc")
	for at := range len(d) {
		for c := range 256 {
			changed := d[:at] + string([]byte{byte(c)}) + d[at+1:]
			want := changed == d || at >= len("sha256:") && strings.IndexByte("0123456789abcdef", byte(c)) >= 0
			if impl.DigestOk(changed) != want {
				t.Fatalf("DigestOk(%q) is %v", changed, !want)
			}
		}
	}
}

func TestNibbleEdges(t *testing.T) {
	d := digestOf("abc")
	for _, r := range []struct {
		d    string
		k    int64
		want int64
	}{
		{d, 0, 11}, {d, 1, 10}, {d, 2, 7}, {d, 62, 10}, {d, 63, 13},
		{d, -1, -1}, {d, 64, -1}, {d, -7, -1}, {d, 71, -1},
		{d, math.MinInt64, -1}, {d, math.MaxInt64, -1}, {d, 1 << 32, -1},
		{"", 0, -1}, {"x", 0, -1}, {d[7:], 0, -1}, {d + "0", 0, -1}, {d[:70], 0, -1},
		{strings.ToUpper(d), 0, -1}, {"sha256:" + strings.ToUpper(d[7:]), 1, -1},
	} {
		if got := impl.Nibble(r.d, r.k); got != r.want {
			t.Errorf("Nibble(%q, %d) is %d, not %d", r.d, r.k, got, r.want)
		}
	}
}

func TestMixed(t *testing.T) {
	texts := []string{"", "a", "b", "ab", "\x00", "a\x00", "\x00b", "a\x00b", "\x00\x00", digestOf("abc"), mixedBytes(63), mixedBytes(64)}
	for _, a := range texts {
		for _, b := range texts {
			sum := sha256.Sum256([]byte(a + "\x00" + b))
			if got, want := impl.Mixed(a, b), binary.BigEndian.Uint64(sum[:]); got != want {
				t.Errorf("Mixed(%q, %q) is %#x, not %#x", a, b, got, want)
			}
		}
	}
	if impl.Mixed("ab", "") == impl.Mixed("a", "b") {
		t.Error("nothing parts the texts")
	}
	if impl.Mixed("a\x00", "b") != impl.Mixed("a", "\x00b") {
		t.Error("a byte 0 within the texts is to be as the one between them")
	}
}

func TestDigestAnswersAreTheirOwn(t *testing.T) {
	for _, n := range edgeSizes {
		data := mixedBytes(n)
		first := impl.Sum(data)
		other := impl.Sum(data)
		for i := range first {
			first[i] = ^first[i]
		}
		_ = append(first, 7)
		if want := wordsOf(data); !slices.Equal(other, want) || !slices.Equal(impl.Sum(data), want) {
			t.Errorf("of %d bytes: an answer that was changed changed another", n)
		}
		d := impl.Digest(data)
		if d != digestOf(data) || d != impl.Digest(data) || impl.Mixed(data, d) != impl.Mixed(data, d) {
			t.Errorf("of %d bytes: the same arguments, another answer", n)
		}
	}
}

package impl

const (
	MaxBody   = 20000
	MaxFrames = 2000
	MaxNumber = 1000000000000
	FrEnd     = 0
	FrShort   = 1
	FrKind    = 2
	FrLong    = 3
	FrCrc     = 4
	FrMany    = 5
)

const (
	maxFrameKind = 100
	frameHead    = 5  // a byte for the Kind, four for the length
	frameTail    = 4  // the CRC
	numberBits   = 42 // six bytes of seven bits: the most that MaxNumber takes
	crcWord      = 0xedb88320
)

type Frame struct {
	Kind int64
	Body string
}

type crcTable [256]uint32

func newCrcTable() crcTable {
	var table crcTable
	for i := range table {
		x := uint32(i)
		for range 8 {
			out := x & 1
			x >>= 1
			if out == 1 {
				x ^= crcWord
			}
		}
		table[i] = x
	}
	return table
}

func (t *crcTable) crc(data string) uint32 {
	x := ^uint32(0)
	for i := range len(data) {
		x = x>>8 ^ t[byte(x)^data[i]]
	}
	return ^x
}

func Crc(data string) uint32 {
	table := newCrcTable()
	return table.crc(data)
}

// A cursor is a place in a text; what is read through it moves it on, what
// fails leaves it where it was.
type cursor struct {
	text string
	at   int
}

func (c *cursor) rest() string {
	return c.text[c.at:]
}

func (c *cursor) take(n int) (string, bool) {
	if n > len(c.text)-c.at {
		return "", false
	}
	piece := c.text[c.at : c.at+n]
	c.at += n
	return piece, true
}

func lowFirst(x uint32) string {
	return string([]byte{byte(x), byte(x >> 8), byte(x >> 16), byte(x >> 24)})
}

func readLowFirst(s string) uint32 {
	return highFirst(s[3], s[2], s[1], s[0])
}

func WriteFrame(f Frame) string {
	if f.Kind < 1 || f.Kind > maxFrameKind || len(f.Body) > MaxBody {
		return ""
	}
	sealed := string([]byte{byte(f.Kind)}) + lowFirst(uint32(len(f.Body))) + f.Body
	return sealed + lowFirst(Crc(sealed))
}

// A frameReader has the table beside its cursor, so that it is worked out
// once for all frames and not for each.
type frameReader struct {
	cursor
	crcTable
}

func ReadFrames(data string) ([]Frame, int64, int64) {
	r := frameReader{cursor{text: data}, newCrcTable()}
	var frames []Frame
	for r.rest() != "" {
		if len(frames) == MaxFrames {
			return frames, int64(r.at), FrMany
		}
		f, fault := r.frame()
		if fault != FrEnd {
			return frames, int64(r.at), fault
		}
		frames = append(frames, f)
	}
	return frames, int64(r.at), FrEnd
}

func (r *frameReader) frame() (Frame, int64) {
	size, fault := frameSize(r.rest())
	if fault != FrEnd {
		return Frame{}, fault
	}
	whole := r.rest()[:size]
	sealed := whole[:size-frameTail]
	if r.crc(sealed) != readLowFirst(whole[len(sealed):]) {
		return Frame{}, FrCrc
	}
	r.take(size)
	return Frame{Kind: int64(sealed[0]), Body: sealed[frameHead:]}, FrEnd
}

// frameSize is how many bytes the frame has with which rest, which is not
// empty, begins; the faults stand in the order in which they are told.
func frameSize(rest string) (int, int64) {
	if rest[0] < 1 || rest[0] > maxFrameKind {
		return 0, FrKind
	}
	if len(rest) < frameHead {
		return 0, FrShort
	}
	body := readLowFirst(rest[1:frameHead])
	if body > MaxBody {
		return 0, FrLong
	}
	size := frameHead + int(body) + frameTail
	if len(rest) < size {
		return 0, FrShort
	}
	return size, FrEnd
}

func PutNumber(n int64) string {
	if n < 0 || n > MaxNumber {
		return ""
	}
	var out []byte
	for n >= 128 {
		out = append(out, byte(n%128+128))
		n /= 128
	}
	return string(append(out, byte(n)))
}

// A fieldReader reads numbers and texts that stand behind one another.
type fieldReader struct {
	cursor
}

func (r *fieldReader) number() (int64, bool) {
	start := r.at
	var n int64
	for shift := 0; shift < numberBits; shift += 7 {
		b, ok := r.take(1)
		if !ok {
			break
		}
		n |= int64(b[0]%128) << shift
		if b[0] >= 128 {
			continue
		}
		if n > MaxNumber || b[0] == 0 && shift > 0 { // a last byte 0 could have been left out
			break
		}
		return n, true
	}
	r.at = start
	return 0, false
}

func (r *fieldReader) field() (string, bool) {
	start := r.at
	size, ok := r.number()
	if ok && size <= MaxBody {
		if s, whole := r.take(int(size)); whole {
			return s, true
		}
	}
	r.at = start
	return "", false
}

func TakeNumber(data string) (int64, string, bool) {
	r := fieldReader{cursor{text: data}}
	n, ok := r.number()
	if !ok {
		return 0, "", false
	}
	return n, r.rest(), true
}

func PutText(s string) string {
	if len(s) > MaxBody {
		return ""
	}
	return PutNumber(int64(len(s))) + s
}

func TakeText(data string) (string, string, bool) {
	r := fieldReader{cursor{text: data}}
	s, ok := r.field()
	if !ok {
		return "", "", false
	}
	return s, r.rest(), true
}

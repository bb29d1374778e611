package pack_test

import (
	"encoding/binary"
	"hash/crc32"
	"math"
	"math/rand"
	"slices"
	"strings"
	"testing"

	"weaver/api"
	"weaver/pack"
)

// frameOf writes a frame by the chapter's words, by the library, to hold Frame against.
func frameOf(body string) string {
	ahead := binary.BigEndian.AppendUint32([]byte("WF"), uint32(len(body)))
	sum := crc32.Checksum(append(slices.Clone(ahead), body...), crc32.MakeTable(crc32.Castagnoli))
	return string(binary.BigEndian.AppendUint32(ahead, sum)) + body
}

func someBytes(seed int64, n int) string {
	b := make([]byte, n)
	rand.New(rand.NewSource(seed)).Read(b)
	return string(b)
}

func wantUnframe(t *testing.T, b string, at int, body string, end int) {
	t.Helper()
	if s, n, f := pack.Unframe(b, at); s != body || n != end || f != (api.Fault{}) {
		t.Errorf("Unframe(%.20x, %d) = %d bytes, %d, %v, want %d bytes, %d", b, at, len(s), n, f, len(body), end)
	}
}

func wantUnframeFault(t *testing.T, b string, at int, want api.Fault) {
	t.Helper()
	if s, n, f := pack.Unframe(b, at); s != "" || n != 0 || f != want {
		t.Errorf("Unframe(%.20x of %d, %d) = %q, %d, %v, want %v", b, len(b), at, s, n, f, want)
	}
}

func wantFrames(t *testing.T, b string, bodies []string, end int) {
	t.Helper()
	if l, n := pack.Frames(b); !slices.Equal(l, bodies) || n != end {
		t.Errorf("Frames of %d bytes = %d bodies, %d, want %d, %d", len(b), len(l), n, len(bodies), end)
	}
}

// 1.3: Sum, of any length.
func TestSum(t *testing.T) {
	if s := pack.Sum("123456789"); s != 3808858755 {
		t.Error(s)
	}
	if s := pack.Sum(""); s != 0 {
		t.Error(s)
	}
	table := crc32.MakeTable(crc32.Castagnoli)
	for x := range 256 {
		b := string([]byte{byte(x)})
		if pack.Sum(b) != crc32.Checksum([]byte(b), table) {
			t.Error("byte", x)
		}
	}
	for _, n := range []int{1, 2, 3, 10, 255, 4096, api.MaxFrame + 1, api.MaxBytes + 1, 1 << 22} {
		b := someBytes(int64(n), n)
		if pack.Sum(b) != crc32.Checksum([]byte(b), table) {
			t.Error(n, "bytes")
		}
	}
}

// 1.3: Frame.
func TestFrame(t *testing.T) {
	bodies := []string{"", "a", "abc", "WF", "WF\x00\x00\x00\x00", "\x00\xff", someBytes(3, 256), someBytes(4, 257), someBytes(5, api.MaxFrame-1), someBytes(6, api.MaxFrame)}
	for _, body := range bodies {
		s, e := pack.Frame(body)
		if s != frameOf(body) || e != api.OK {
			t.Errorf("Frame of %d bytes = %.20x, %d", len(body), s, e)
		}
		wantUnframe(t, s, 0, body, len(body)+10)
	}
	for _, n := range []int{api.MaxFrame + 1, api.MaxBytes + 1, 1 << 22} {
		if s, e := pack.Frame(strings.Repeat("x", n)); s != "" || e != api.ErrLong {
			t.Error(n, len(s), e)
		}
	}
}

// 1.3: places outside of the bytes, and at their ends.
func TestUnframePlaces(t *testing.T) {
	s := frameOf("abc")
	for _, b := range []string{s, ""} {
		for _, at := range []int{-1, -2, math.MinInt, len(b) + 1, len(b) + 2, math.MaxInt} {
			wantUnframeFault(t, b, at, api.Fault{Code: api.ErrRange})
		}
		wantUnframeFault(t, b, len(b), api.Fault{At: len(b), Code: api.ErrEnd})
	}
	for at := 1; at < len(s); at++ {
		wantUnframeFault(t, s, at, api.Fault{At: at, Code: api.ErrForm})
	}
}

// 1.3: bytes that are no frame, and which error goes first.
func TestUnframeFaults(t *testing.T) {
	for _, x := range []struct {
		b    string
		code api.Errno
	}{
		{"W", api.ErrEnd},
		{"WF", api.ErrEnd},
		{"WF\xff\xff\xff\xff\xff\xff\xff", api.ErrEnd},
		{"F", api.ErrForm},
		{"X", api.ErrForm},
		{"w", api.ErrForm},
		{"WX", api.ErrForm},
		{"WW", api.ErrForm},
		{"Wf\x00\x00\x00\x00\x00\x00\x00\x00", api.ErrForm},
		{"FW\x00\x00\x00\x00\x00\x00\x00\x00", api.ErrForm},
		{"WF\x00\x01\x00\x01\x00\x00\x00\x00", api.ErrLong},
		{"WF\x80\x00\x00\x00\x00\x00\x00\x00", api.ErrLong},
		{"WF\xff\xff\xff\xff\x00\x00\x00\x00", api.ErrLong},
		{"WF\x00\x01\x00\x01\x00\x00\x00\x00" + strings.Repeat("x", api.MaxFrame+1), api.ErrLong},
		{"WF\x00\x01\x00\x00\x00\x00\x00\x00", api.ErrEnd},
		{"WF\x00\x01\x00\x00\x00\x00\x00\x00" + strings.Repeat("x", api.MaxFrame-1), api.ErrEnd},
		{"WF\x00\x01\x00\x00\x00\x00\x00\x00" + strings.Repeat("x", api.MaxFrame), api.ErrSum},
		{"WF\x00\x00\x00\x00\x00\x00\x00\x00", api.ErrSum},
		{"WF\x00\x00\x00\x02\x00\x00\x00\x00a", api.ErrEnd},
	} {
		wantUnframeFault(t, x.b, 0, api.Fault{Code: x.code})
		wantUnframeFault(t, "WF"+x.b, 2, api.Fault{At: 2, Code: x.code})
	}
}

// 1.4: a frame is found wherever it stands.
func TestFrameAnywhere(t *testing.T) {
	for _, body := range []string{"", "abc", "WF", frameOf("inner"), someBytes(7, 500)} {
		s := frameOf(body)
		for _, ahead := range []string{"", "z", "W", "WF", s, s[:len(s)-1], someBytes(8, 77)} {
			for _, behind := range []string{"", "z", "W", s, someBytes(9, 33)} {
				wantUnframe(t, ahead+s+behind, len(ahead), body, len(ahead)+len(s))
			}
		}
	}
	inner := frameOf("inner")
	wantUnframe(t, frameOf(inner), 10, "inner", 10+len(inner))
}

// 1.4: one that ends early is none.
func TestFrameEndsEarly(t *testing.T) {
	for _, body := range []string{"", "abc", someBytes(10, 300)} {
		s := frameOf(body)
		for n := range s {
			wantUnframeFault(t, s[:n], 0, api.Fault{Code: api.ErrEnd})
			wantUnframeFault(t, "zz"+s[:n], 2, api.Fault{At: 2, Code: api.ErrEnd})
			wantFrames(t, s+s[:n], []string{body}, len(s))
		}
	}
}

// 1.4: one in which one byte behind the number is another one is none.
func TestFrameByteChanged(t *testing.T) {
	for _, body := range []string{"", "a", "abc", someBytes(11, 40)} {
		s := frameOf(body)
		for i := range s {
			for x := range 256 {
				b := []byte(s)
				if b[i] == byte(x) {
					continue
				}
				b[i] = byte(x)
				_, _, f := pack.Unframe(string(b), 0)
				if i >= 6 && f != (api.Fault{Code: api.ErrSum}) || i < 2 && f != (api.Fault{Code: api.ErrForm}) {
					t.Errorf("byte %d as %d: %v", i, x, f)
				}
				if f == (api.Fault{}) {
					t.Errorf("byte %d as %d: no fault", i, x)
				}
			}
		}
	}
	s := []byte(frameOf(someBytes(12, api.MaxFrame)))
	for i := 6; i < len(s); i += 997 {
		s[i] ^= 1
		wantUnframeFault(t, string(s), 0, api.Fault{Code: api.ErrSum})
		s[i] ^= 1
	}
}

// 1.3: Frames.
func TestFrames(t *testing.T) {
	wantFrames(t, "", nil, 0)
	wantFrames(t, "W", nil, 0)
	wantFrames(t, "z"+frameOf("abc"), nil, 0)
	bodies := []string{"abc", "", "WF", "", someBytes(13, api.MaxFrame), "last"}
	b := ""
	for i, body := range bodies {
		b += frameOf(body)
		for _, rest := range []string{"", "W", "WF", "z", "\x00", "WF\xff\xff\xff\xff\x00\x00\x00\x00", "WF\x00\x00\x00\x00\x00\x00\x00\x00", "z" + frameOf("x")} {
			wantFrames(t, b+rest, bodies[:i+1], len(b))
		}
	}
	torn := frameOf("one") + frameOf("two")[:12] + "x" + frameOf("three")
	wantFrames(t, torn, []string{"one"}, 13)
	many := strings.Repeat(frameOf(""), 1<<16)
	wantFrames(t, many, make([]string, 1<<16), len(many))
}

// P1: no bytes and no place bring a panic.
func TestFramesOfAnything(t *testing.T) {
	r := rand.New(rand.NewSource(14))
	likely := []byte{'W', 'F', 0, 0, 0, 1, 2, 255}
	for range 100000 {
		b := make([]byte, r.Intn(24))
		for i := range b {
			b[i] = likely[r.Intn(len(likely))]
		}
		at := r.Intn(len(b)+5) - 2
		if _, end, f := pack.Unframe(string(b), at); f == (api.Fault{}) && (end < at+10 || end > len(b)) {
			t.Fatal(b, at, end)
		}
		if _, end := pack.Frames(string(b)); end < 0 || end > len(b) {
			t.Fatal(b, end)
		}
	}
}

// R4: answers are new memory.
func TestFramesShareNothing(t *testing.T) {
	s := frameOf("abc")
	b := s + s
	body, _, _ := pack.Unframe(b, 0)
	again, _, _ := pack.Unframe(b, 0)
	l, _ := pack.Frames(b)
	if len(l) != 2 {
		t.Fatal(l)
	}
	if meets(body, b) || meets(body, again) || meets(l[0], b) || meets(l[1], b) || meets(l[0], l[1]) {
		t.Error("shared memory")
	}
}

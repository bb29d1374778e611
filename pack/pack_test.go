package pack_test

import (
	"math"
	"math/big"
	"math/rand"
	"slices"
	"strings"
	"testing"
	"unsafe"

	"weaver/api"
	"weaver/pack"
)

func number(n int64) api.Item { return api.Item{N: n} }

func text(s string) api.Item { return api.Item{Text: true, S: s} }

// numberBytes writes a number by the chapter's words, by numbers without bounds, to hold Encode against.
func numberBytes(n int64) string {
	u := new(big.Int).Mul(big.NewInt(n), big.NewInt(2))
	if n < 0 {
		u.Neg(u).Sub(u, big.NewInt(1))
	}
	group, left := big.NewInt(128), new(big.Int)
	u.DivMod(u, group, left)
	b := []byte{byte(left.Int64())}
	for u.Sign() > 0 {
		u.DivMod(u, group, left)
		b = append(b, byte(left.Int64())+128)
	}
	slices.Reverse(b)
	return string(b)
}

func wantEncode(t *testing.T, l []api.Item, want string) {
	t.Helper()
	if s, e := pack.Encode(l); s != want || e != api.OK {
		t.Errorf("Encode(%v) = %x, %d, want %x", l, s, e, want)
	}
}

func wantEncodeError(t *testing.T, l []api.Item, want api.Errno) {
	t.Helper()
	if s, e := pack.Encode(l); s != "" || e != want {
		t.Errorf("Encode of %d items = %d bytes, %d, want none, %d", len(l), len(s), e, want)
	}
}

func wantDecode(t *testing.T, b string, want []api.Item) {
	t.Helper()
	if l, f := pack.Decode(b); !slices.Equal(l, want) || f != (api.Fault{}) {
		t.Errorf("Decode of %d bytes (%.20x) = %d items, %v, want %d items", len(b), b, len(l), f, len(want))
	}
}

func wantFault(t *testing.T, b string, at int, code api.Errno) {
	t.Helper()
	l, f := pack.Decode(b)
	if len(l) != 0 || f != (api.Fault{At: at, Code: code}) {
		t.Errorf("Decode of %d bytes (%.20x) = %d items, %v, want {%d %d}", len(b), b, len(l), f, at, code)
	}
}

func someNumbers() []int64 {
	l := []int64{0, -1, 63, -64, 64, -65, 8191, -8192, 8192, -8193, math.MaxInt64, math.MinInt64, math.MaxInt64 - 1, math.MinInt64 + 1}
	for k := range 63 {
		n := int64(1) << k
		l = append(l, n-1, n, n+1, -n-1, -n, -n+1)
	}
	return l
}

// 1.1 and the chapter's example.
func TestEncodeForm(t *testing.T) {
	wantEncode(t, nil, "")
	wantEncode(t, []api.Item{}, "")
	wantEncode(t, []api.Item{number(0), number(-1), number(64), number(-65)}, "\x01\x00\x01\x01\x01\x81\x00\x01\x81\x01")
	wantEncode(t, []api.Item{text("ab")}, "\x02\x04ab")
	wantEncode(t, []api.Item{text(""), number(63), text("\x00\xff\x02")}, "\x02\x00\x01\x7e\x02\x06\x00\xff\x02")
	wantEncode(t, []api.Item{number(math.MaxInt64)}, "\x01\x81\xff\xff\xff\xff\xff\xff\xff\xff\x7e")
	wantEncode(t, []api.Item{number(math.MinInt64)}, "\x01\x81\xff\xff\xff\xff\xff\xff\xff\xff\x7f")
	for _, n := range someNumbers() {
		wantEncode(t, []api.Item{number(n)}, "\x01"+numberBytes(n))
	}
	for _, n := range []int{1, 63, 64, 200, 8191, 8192, 100000} {
		s := strings.Repeat("x", n)
		wantEncode(t, []api.Item{text(s)}, "\x02"+numberBytes(int64(n))+s)
	}
}

// 1.1: what may not be.
func TestEncodeShape(t *testing.T) {
	for _, x := range []api.Item{{N: 1, S: "x"}, {S: "x"}, {S: "\x00"}, {Text: true, N: 1}, {Text: true, N: -1, S: "x"}, {Text: true, N: math.MinInt64}} {
		wantEncodeError(t, []api.Item{x}, api.ErrShape)
		wantEncodeError(t, []api.Item{number(5), text("a"), x}, api.ErrShape)
	}
}

// 1.1: how many items, how many bytes, and which error goes first.
func TestEncodeLimits(t *testing.T) {
	full := make([]api.Item, api.MaxItems)
	wantEncode(t, full, strings.Repeat("\x01\x00", api.MaxItems))
	wantEncodeError(t, append(slices.Clone(full), number(0)), api.ErrLong)
	wantEncodeError(t, append([]api.Item{{S: "x"}}, full...), api.ErrLong)

	most := strings.Repeat("x", api.MaxBytes-4)
	wantEncode(t, []api.Item{text(most)}, "\x02"+numberBytes(int64(len(most)))+most)
	wantEncodeError(t, []api.Item{text(most + "x")}, api.ErrLong)
	wantEncodeError(t, []api.Item{text(most), number(0)}, api.ErrLong)
	wantEncodeError(t, []api.Item{text(most), text("")}, api.ErrLong)
	wantEncodeError(t, []api.Item{number(0), text(most)}, api.ErrLong)
	wantEncodeError(t, []api.Item{text(most + "xxxxx")}, api.ErrLong)
	wantEncodeError(t, []api.Item{text(most + "xxxxx"), {S: "x"}}, api.ErrShape)
	wantEncode(t, []api.Item{text(most[2:]), number(0)}, "\x02"+numberBytes(int64(len(most)-2))+most[2:]+"\x01\x00")

	huge := strings.Repeat("x", 1<<24)
	many := slices.Repeat([]api.Item{text(huge)}, api.MaxItems)
	wantEncodeError(t, many, api.ErrLong)
}

// 1.2: what is right.
func TestDecodeForm(t *testing.T) {
	wantDecode(t, "", nil)
	wantDecode(t, "\x01\x00\x01\x01\x01\x81\x00\x01\x81\x01", []api.Item{number(0), number(-1), number(64), number(-65)})
	wantDecode(t, "\x02\x04ab\x02\x00\x01\x7f", []api.Item{text("ab"), text(""), number(-64)})
	wantDecode(t, "\x01\x81\xff\xff\xff\xff\xff\xff\xff\xff\x7e", []api.Item{number(math.MaxInt64)})
	wantDecode(t, "\x01\x81\xff\xff\xff\xff\xff\xff\xff\xff\x7f", []api.Item{number(math.MinInt64)})
	wantDecode(t, "\x01\x81\x80\x80\x00", []api.Item{number(1 << 20)})
	for _, n := range someNumbers() {
		wantDecode(t, "\x01"+numberBytes(n), []api.Item{number(n)})
	}
}

// 1.2: bytes that may not stand where they do.
func TestDecodeWrongBytes(t *testing.T) {
	for kind := range 256 {
		if kind != 1 && kind != 2 {
			wantFault(t, string([]byte{byte(kind), 0}), 0, api.ErrForm)
			wantFault(t, string([]byte{1, 0, byte(kind)}), 2, api.ErrForm)
		}
	}
	wantFault(t, "\x01\x80", 0, api.ErrForm)
	wantFault(t, "\x01\x80\x01", 0, api.ErrForm)
	wantFault(t, "\x02\x80\x00", 0, api.ErrForm)
	wantFault(t, "\x02\x02a\x01\x80\x80", 3, api.ErrForm)
}

// 1.2: a u of 2^57 or more ahead of one more byte.
func TestDecodeGreatNumbers(t *testing.T) {
	zeros, ones := strings.Repeat("\x80", 8), strings.Repeat("\xff", 8)
	for _, last := range []string{"\x00", "\x7f", "\x80", "\xff"} {
		wantFault(t, "\x01\x82"+zeros+last, 0, api.ErrForm)
		wantFault(t, "\x01\xff"+ones+last, 0, api.ErrForm)
		wantFault(t, "\x01\x00\x01\x83"+zeros+last, 2, api.ErrForm)
		wantFault(t, "\x01\x81"+ones+"\xff"+last, 0, api.ErrForm)
		wantFault(t, "\x02\x82"+zeros+last, 0, api.ErrForm)
	}
	wantFault(t, "\x01\x82"+zeros, 0, api.ErrEnd)
	wantFault(t, "\x01\x81"+ones+"\xff", 0, api.ErrEnd)
	wantDecode(t, "\x01\x82"+zeros[1:]+"\x00", []api.Item{number(1 << 56)})
	wantDecode(t, "\x01\x81"+ones+"\x00", []api.Item{number(1<<63 - 64)})
	wantDecode(t, "\x01\x81"+zeros+"\x00", []api.Item{number(1 << 62)})
}

// 1.2: a text's number.
func TestDecodeTextNumber(t *testing.T) {
	for _, n := range []int64{-1, -2, -65, api.MaxBytes + 1, api.MaxBytes + 64, 1 << 31, 1 << 32, math.MaxInt64, math.MinInt64} {
		wantFault(t, "\x02"+numberBytes(n), 0, api.ErrForm)
		wantFault(t, "\x01\x05\x02"+numberBytes(n)+"abc", 2, api.ErrForm)
	}
	wantFault(t, "\x02"+numberBytes(api.MaxBytes), 0, api.ErrEnd)
	wantFault(t, "\x02"+numberBytes(api.MaxBytes)+strings.Repeat("x", api.MaxBytes-4), 0, api.ErrEnd)
	wantFault(t, "\x02\x04a", 0, api.ErrEnd)
	wantFault(t, "\x02\x04a\x01\x00\x02\x04a", 4, api.ErrForm)
	wantFault(t, "\x02\x02a\x02\x06bc", 3, api.ErrEnd)
}

// 1.2: bytes that end within an item, wherever.
func TestDecodeEnds(t *testing.T) {
	items := []api.Item{number(1), number(math.MinInt64), text(strings.Repeat("y", 100)), number(-300), text("ab")}
	whole, _ := pack.Encode(items)
	begins := map[int]int{} // of each item's place, how many items stand ahead of it
	for i := range items {
		ahead, _ := pack.Encode(items[:i])
		begins[len(ahead)] = i
	}
	begin := 0
	for n := range whole {
		if k, ok := begins[n]; ok {
			begin = n
			wantDecode(t, whole[:n], items[:k])
			continue
		}
		wantFault(t, whole[:n], begin, api.ErrEnd)
	}
}

// 1.2: how many bytes, how many items, and which error goes first.
func TestDecodeLimits(t *testing.T) {
	most := "\x02" + numberBytes(api.MaxBytes-4) + strings.Repeat("x", api.MaxBytes-4)
	wantDecode(t, most, []api.Item{text(most[4:])})
	wantFault(t, most+"\x01", 0, api.ErrLong)
	wantFault(t, "\x03"+most, 0, api.ErrLong)
	wantFault(t, "\x03"+most[1:], 0, api.ErrForm)

	full := strings.Repeat("\x01\x00", api.MaxItems)
	wantDecode(t, full, make([]api.Item, api.MaxItems))
	for _, more := range []string{"\x01\x00", "\x01", "\x00", "\x03", "\x01\x80"} {
		wantFault(t, full+more, len(full), api.ErrLong)
	}
	wantFault(t, full[2:]+"\x03", len(full)-2, api.ErrForm)
	wantFault(t, full[2:]+"\x01", len(full)-2, api.ErrEnd)
}

// 1.4: what is encoded is decoded.
func TestEncodedIsDecoded(t *testing.T) {
	r := rand.New(rand.NewSource(1))
	for range 2000 {
		l := make([]api.Item, r.Intn(8))
		for i := range l {
			l[i] = number(int64(r.Uint64()) >> r.Intn(64))
			if r.Intn(2) == 0 {
				b := make([]byte, r.Intn(300))
				r.Read(b)
				l[i] = text(string(b))
			}
		}
		b, e := pack.Encode(l)
		if e != api.OK {
			t.Fatal(l, e)
		}
		wantDecode(t, b, l)
	}
}

// 1.4: bytes are one list or none; and P1: no bytes bring a panic.
func TestBytesAreOneList(t *testing.T) {
	same := func(b string) {
		l, f := pack.Decode(b)
		if f != (api.Fault{}) {
			if f.Code == api.OK || f.At < 0 || f.At > len(b) || len(l) != 0 {
				t.Fatalf("%x: %v, %v", b, l, f)
			}
			return
		}
		if s, e := pack.Encode(l); s != b || e != api.OK {
			t.Fatalf("%x is decoded to %v, which is encoded to %x, %d", b, l, s, e)
		}
	}
	for x := range 256 {
		same(string([]byte{byte(x)}))
		for y := range 256 {
			same(string([]byte{byte(x), byte(y)}))
			for kind := range 3 {
				same(string([]byte{byte(kind), byte(x), byte(y)}))
			}
		}
	}
	r := rand.New(rand.NewSource(2))
	likely := []byte{0, 1, 1, 1, 2, 2, 2, 3, 4, 127, 128, 129, 130, 255}
	for range 200000 {
		b := make([]byte, r.Intn(16))
		for i := range b {
			b[i] = likely[r.Intn(len(likely))]
		}
		same(string(b))
	}
}

// meets says whether two texts share memory.
func meets(a, b string) bool {
	if a == "" || b == "" {
		return false
	}
	x, y := uintptr(unsafe.Pointer(unsafe.StringData(a))), uintptr(unsafe.Pointer(unsafe.StringData(b)))
	return x < y+uintptr(len(b)) && y < x+uintptr(len(a))
}

// R4 and R7: arguments are left as they are, answers are new memory and the same each time.
func TestListsShareNothing(t *testing.T) {
	room := []api.Item{number(7), text("abc"), number(9), {N: 1, S: "behind the length"}}
	was := slices.Clone(room)
	s, e := pack.Encode(room[:3])
	if e != api.OK || !slices.Equal(room, was) {
		t.Error(e, room)
	}
	b := strings.Clone(s + s)
	first, _ := pack.Decode(b)
	second, _ := pack.Decode(b)
	if !slices.Equal(first, second) || len(first) != 6 {
		t.Fatal(first, second)
	}
	for i, x := range first {
		if meets(x.S, b) || meets(x.S, second[i].S) {
			t.Error(i, "shares memory")
		}
	}
	if meets(first[1].S, first[4].S) {
		t.Error("two texts of one answer share memory")
	}
	first[0].N = 100
	if second[0].N != 7 {
		t.Error("two answers share memory")
	}
}

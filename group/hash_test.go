package group_test

import (
	"hash/fnv"
	"math"
	"math/rand"
	"strings"
	"testing"
	"unsafe"

	"weaver/api"
	"weaver/group"
)

// wrongGroups may be the number of groups nowhere.
var wrongGroups = []int{math.MinInt, math.MinInt32, -128, -1, 0, api.MaxGroups + 1, 2 * api.MaxGroups, 1 << 31, 1<<32 + 1, math.MaxInt - 1, math.MaxInt}

// libraryHash is FNV-1a as the library has it.
func libraryHash(key string) uint32 {
	h := fnv.New32a()
	h.Write([]byte(key))
	return h.Sum32()
}

// wantKey holds a key's hash and its group, of each number of groups, against a hash.
func wantKey(t *testing.T, key string, hash uint32) {
	t.Helper()
	if got := group.Hash(key); got != hash {
		t.Errorf("Hash(%.40q) = %d, want %d", key, got, hash)
	}
	for groups := 1; groups <= api.MaxGroups; groups++ {
		if g, e := group.Of(key, groups); uint64(g) != uint64(hash)%uint64(groups) || e != api.OK {
			t.Errorf("Of(%.40q, %d) = %d, %d, want %d", key, groups, g, e, hash%uint32(groups))
		}
	}
}

// 6.1: the chapter's examples, and hashes that are known.
func TestHash(t *testing.T) {
	wantKey(t, "", 2166136261)
	wantKey(t, "a", 3826002220)
	wantKey(t, "b", 0xe70c2de5)
	wantKey(t, "foobar", 0xbf9cf968)
	wantKey(t, "\x00", 0x050c5d1f)
}

// 6.1: any text has a hash, by its bytes, not by its runes.
func TestHashOfAnyText(t *testing.T) {
	for c := range 256 {
		key := string([]byte{byte(c)})
		wantKey(t, key, libraryHash(key))
		wantKey(t, key+"x"+key, libraryHash(key+"x"+key))
	}
	for _, key := range []string{"ab", "ba", "é", "\xff\xfe", "\x00\x00", "a\x00", "A key of words", strings.Repeat("z", api.MaxName+1), strings.Repeat("\xff", 1<<16)} {
		wantKey(t, key, libraryHash(key))
	}
	r := rand.New(rand.NewSource(6))
	for range 500 {
		b := make([]byte, r.Intn(80))
		r.Read(b)
		wantKey(t, string(b), libraryHash(string(b)))
	}
}

// 6.1: groups that may not be, whatever the key.
func TestOfWrongGroups(t *testing.T) {
	for _, groups := range wrongGroups {
		for _, key := range []string{"", "a", "foobar", "\xff", strings.Repeat("k", 1<<16)} {
			if g, e := group.Of(key, groups); g != 0 || e != api.ErrRange {
				t.Errorf("Of(%.40q, %d) = %d, %d, want 0, %d", key, groups, g, e, api.ErrRange)
			}
		}
	}
}

// R4, R7: a key's hash hangs on its bytes alone, wherever they lie, and leaves them as they are.
func TestHashHangsOnBytes(t *testing.T) {
	room := []byte("xxkeyxx")
	key := unsafe.String(&room[2], 3)
	wantKey(t, key, libraryHash("key"))
	room[0], room[5] = '!', '!'
	wantKey(t, key, libraryHash("key"))
	if string(room) != "!xkey!x" {
		t.Errorf("%q", room)
	}
	room[4] = '!'
	wantKey(t, key, libraryHash("ke!"))
}

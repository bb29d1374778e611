package link_test

import (
	"runtime"
	"strings"
	"testing"

	"weaver/api"
)

// inUse is how many bytes the program has, behind a collection of what nobody asks for any more.
func inUse() int64 {
	runtime.GC()
	var m runtime.MemStats
	runtime.ReadMemStats(&m)
	return int64(m.HeapAlloc)
}

// 19.3, 19.4: texts that were acknowledged, told, or came again or from too far ahead, are kept no
// more: of 1000 of the longest ones, 60 millions of bytes, nothing is left.
func TestNothingIsKept(t *testing.T) {
	s, r := sender(t, 0, 4, 1), receiver(t, 0, 4)
	long := strings.Repeat("l", longest)
	first := inUse()
	for n := range 1000 {
		wantPush(t, s, long, api.OK)
		for _, at := range []int{n, n, max(0, n-2), n + 5} {
			if _, _, e := r.Take(dataOf(0, at, long)); e != api.OK {
				t.Fatal(n, at, e)
			}
		}
		wantHeard(t, s, ackOf(0, n+1), api.OK)
	}
	wantNext(t, r, 1000)
	if more := inUse() - first; more > 20*longest {
		t.Errorf("%d bytes more are in use", more)
	}
	runtime.KeepAlive(s)
	runtime.KeepAlive(r)
}

package verify

import (
	"runtime"
	"slices"
	"testing"

	"turnpike/api"
)

// allSet is a map of so many bits all of whose places are set, with the words ahead of it.
func allSet(bits int) []uint32 {
	words := []uint32{1<<24 | uint32(bits), 2<<24 | uint32(bits)}
	return append(words, slices.Repeat([]uint32{0xffffffff}, 1<<bits/32)...)
}

// fan is code of a block that jumps to so many others, which stand behind it in a row, or, turned round, the last one first.
func fan(bits int, turned bool) []uint32 {
	words := allSet(bits)
	first := len(words) + 1<<bits
	for k := range 1 << bits {
		to := k
		if turned {
			to = 1<<bits - 1 - k
		}
		words = append(words, 3<<24|uint32(first+4*to-len(words)))
	}
	for k := range 1 << bits {
		words = append(words, wordsOf("x1 i1:80000000")...)
		words = append(words, 4<<24|uint32(k%65536))
	}
	return words
}

// TestP1801ManyBlocks: more of them, and jumps, than could be asked for one by one of all others.
func TestP1801ManyBlocks(t *testing.T) {
	const bits = 18
	for _, turned := range []bool{false, true} {
		words := fan(bits, turned)
		b := bytesOf(words)
		isTold(t, 32, b, 2, 0, api.OK)
		l := treeOf(t, 128, b)
		if len(l) != 1+1<<bits || len(l[0].Runs) != 1<<bits {
			t.Fatalf("P1803: %d nodes, %d runs", len(l), len(l[0].Runs))
		}
		for k, r := range l[0].Runs {
			want := 1 + k
			if turned {
				want = 1<<bits - k
			}
			if r != (api.Run{From: api.Word{Lo: uint64(k)}, Kid: true, N: want}) {
				t.Fatalf("P1803: run %d: %v", k, r)
			}
		}
		// The last jump is another one, so that it leads to a word behind a block's first one, or to no word.
		last := len(allSet(bits)) + 1<<bits - 1
		words[last]++
		isRefused(t, 32, bytesOf(words), last, api.ErrJump)
		words[last] = 4<<24 | 7
		unused := last + 1
		if !turned {
			unused += 4 * (1<<bits - 1)
		}
		isRefused(t, 32, bytesOf(words), unused, api.ErrUnused)
	}
}

// TestP1801LongChain: far more blocks on one way than there are bits.
func TestP1801LongChain(t *testing.T) {
	b := laid(chain(steps(200000)...))
	isRefused(t, 32, b, 5*32, api.ErrBits)
	isRefused(t, 128, b, 5*128, api.ErrBits)
}

// TestP1801ManyEntries: as many as a map of 20 bits has places; and all but one of them.
func TestP1801ManyEntries(t *testing.T) {
	const bits = 20
	words := allSet(bits)
	ahead := len(words)
	for k := range 1 << bits {
		words = append(words, 4<<24|uint32(k%65536))
	}
	b := bytesOf(words)
	isTold(t, 32, b, 1, 0, api.OK)
	if l := treeOf(t, 32, b); len(l) != 1 || len(l[0].Runs) != 1<<bits || l[0].Runs[1<<bits-1] != (api.Run{From: api.Word{Lo: 1<<bits - 1}, N: 65535}) {
		t.Error("P1803: the runs are other ones")
	}
	isRefused(t, 32, b[:len(b)-4], len(words)-1, api.ErrBounds)
	words[len(words)-1]--
	isRefused(t, 32, bytesOf(words), len(words)-1, api.ErrMap)
	isRefused(t, 32, b[:4*ahead], ahead, api.ErrBounds)
}

// allocated is how many bytes of memory a call asks for.
func allocated(call func()) uint64 {
	var before, behind runtime.MemStats
	runtime.ReadMemStats(&before)
	call()
	runtime.ReadMemStats(&behind)
	return behind.TotalAlloc - before.TotalAlloc
}

// TestP1801GreatMaps: of all bits that there may be; far fewer words stand behind them than places are set, and no room is made for more.
func TestP1801GreatMaps(t *testing.T) {
	words := allSet(24)
	b := bytesOf(words)
	if most := allocated(func() { isRefused(t, 32, b, len(words), api.ErrBounds) }); most > uint64(20*len(b)) {
		t.Errorf("%d bytes of code ask for %d of memory", len(b), most)
	}
	isRefused(t, 32, bytesOf(append(words, wordsOf("r1 r2 r3 r3")...)), len(words)+3, api.ErrMap)
	words = append(wordsOf("x1 i1:80000000 j1"), words...)
	isRefused(t, 32, bytesOf(words), len(words), api.ErrBounds)
	isRefused(t, 32, bytesOf(words[:len(words)-1]), 5, api.ErrBounds)
}

// TestP1801FarJumps: nearly as far as three bytes tell, over blocks of 24 bits; to one more of these no jump can lead.
func TestP1801FarJumps(t *testing.T) {
	const most = 32
	great := slices.Concat([]uint32{1<<24 | 24, 2<<24 | 24}, mapOf(24, 0), wordsOf("r9"))
	words := wordsOf("x5 i5:ffffffff")
	for k := range most {
		words = append(words, 3<<24|uint32(most-k+k*len(great)))
	}
	words = append(words, slices.Repeat(great, most)...)
	isTold(t, 32, bytesOf(words), 2, 0, api.OK)
	isRefused(t, 32, bytesOf(append(words, great...)), len(words), api.ErrUnused)
}

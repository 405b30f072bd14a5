package vm

import (
	"bytes"
	"math"
	"slices"
	"strconv"
	"testing"

	"turnpike/api"
	"turnpike/emit"
)

func TestP1901Examples(t *testing.T) {
	// 1.
	isRun(t, 32, []byte{4, 0, 0, 9}, api.Word{}, 1, api.Result{Hop: 9, Steps: 1})
	isRun(t, 32, []byte{4, 0, 0, 9}, api.Word{}, 0, api.Result{Err: api.ErrFuel})
	isRun(t, 32, nil, api.Word{}, 1, api.Result{Err: api.ErrBounds})
	// 2.
	b, e := emit.Code(32, []api.Node{{Bits: 1, Runs: []api.Run{{N: 5}, {From: api.Word{Lo: 1}}}}}, api.MaxImage)
	if e != api.OK || !bytes.Equal(b, codeOf("x1 i1:c0000000 r5 r0")) {
		t.Fatalf("example 1 of chapter 16: %x, %v", b, e)
	}
	for _, fuel := range []int{3, 4, api.MaxFuel} {
		isRun(t, 32, b, api.Word{}, fuel, api.Result{Hop: 5, Steps: 3, Extracts: 1, Indexes: 1, Bits: 1})
		isRun(t, 32, b, address(0x80000000), fuel, api.Result{Steps: 3, Extracts: 1, Indexes: 1, Bits: 1})
	}
	// 3.
	isRun(t, 32, codeOf("i1:c0000000 r1 r2"), api.Word{}, 9, api.Result{Err: api.ErrMap})
	isRun(t, 32, codeOf(times(33, "x1")), api.Word{}, 99, api.Result{Err: api.ErrBits, Steps: 32, Extracts: 32, Bits: 32})
}

func TestP1901ByHand(t *testing.T) {
	for _, x := range []struct {
		family int
		text   string
		w      uint32
		fuel   int
		want   api.Result
	}{
		{32, "j3 r1 r2 r3", 0, 9, api.Result{Hop: 3, Steps: 2}}, {32, "j1 r1 r2", 0, 9, api.Result{Hop: 1, Steps: 2}}, {32, "j2 #00000000 j1 r2", 0, 9, api.Result{Hop: 2, Steps: 3}}, {32, "j1", 0, 9, api.Result{Err: api.ErrBounds, Steps: 1}}, {32, "j16777215 r1", 0, 9, api.Result{Err: api.ErrBounds, Steps: 1}},
		{128, "x3 i3:a8000000 r1 r2 r3", 0x20000000, 9, api.Result{Hop: 1, Steps: 3, Extracts: 1, Indexes: 1, Bits: 3}}, {128, "x3 i3:a8000000 r1 r2 r3", 0x40000000, 9, api.Result{Hop: 2, Steps: 3, Extracts: 1, Indexes: 1, Bits: 3}}, {128, "x3 i3:a8000000 r1 r2 r3", 0x60000000, 9, api.Result{Hop: 2, Steps: 3, Extracts: 1, Indexes: 1, Bits: 3}}, {128, "x3 i3:a8000000 r1 r2 r3", 0x80000000, 9, api.Result{Hop: 3, Steps: 3, Extracts: 1, Indexes: 1, Bits: 3}}, {128, "x3 i3:a8000000 r1 r2 r3", 0xffffffff, 9, api.Result{Hop: 3, Steps: 3, Extracts: 1, Indexes: 1, Bits: 3}},
		// The entry lacks at which it would go on.
		{32, "x1 i1:c0000000 r1", 0x80000000, 9, api.Result{Err: api.ErrBounds, Steps: 2, Extracts: 1, Indexes: 1, Bits: 1}}, {32, "x1 i1:c0000000 r1", 0, 9, api.Result{Hop: 1, Steps: 3, Extracts: 1, Indexes: 1, Bits: 1}}, {32, "x1 i1:c0000000", 0, 9, api.Result{Err: api.ErrBounds, Steps: 2, Extracts: 1, Indexes: 1, Bits: 1}},
		// Bits that no index uses; an answer behind each instruction.
		{32, "x5 x6 r7", 0, 9, api.Result{Hop: 7, Steps: 3, Extracts: 2, Bits: 11}}, {32, "x5 j1 x6 r7", 0, 9, api.Result{Hop: 7, Steps: 4, Extracts: 2, Bits: 11}}, {32, "x8 x4 i4:80010000 r1 r2", 0x00f00000, 9, api.Result{Hop: 2, Steps: 4, Extracts: 2, Indexes: 1, Bits: 12}}, {32, "x8 x4 i4:80010000 r1 r2", 0xff0fffff, 9, api.Result{Hop: 1, Steps: 4, Extracts: 2, Indexes: 1, Bits: 12}},
		// An answer ends the run, whatever stands behind it.
		{32, "r0 r5", 0, 9, api.Result{Steps: 1}}, {32, "r0 #ffffffff", 0, 9, api.Result{Steps: 1}},
		// Two blocks.
		{32, "x1 i1:c0000000 j2 r7 x2 i2:a0000000 r1 r2", 0x60000000, 9, api.Result{Hop: 2, Steps: 6, Extracts: 2, Indexes: 2, Bits: 3}}, {32, "x1 i1:c0000000 j2 r7 x2 i2:a0000000 r1 r2", 0x20000000, 9, api.Result{Hop: 1, Steps: 6, Extracts: 2, Indexes: 2, Bits: 3}}, {32, "x1 i1:c0000000 j2 r7 x2 i2:a0000000 r1 r2", 0x80000000, 9, api.Result{Hop: 7, Steps: 3, Extracts: 1, Indexes: 1, Bits: 1}}, {32, "x1 i1:c0000000 j2 r7 x2 i2:a0000000 r1 r2", 0x60000000, 5, api.Result{Err: api.ErrFuel, Steps: 5, Extracts: 2, Indexes: 2, Bits: 3}}, {32, "x1 i1:c0000000 j2 r7 x2 i2:a0000000 r1 r2", 0x60000000, 4, api.Result{Err: api.ErrFuel, Steps: 4, Extracts: 2, Indexes: 1, Bits: 3}}, {32, "x1 i1:c0000000 j2 r7 x2 i2:a0000000 r1 r2", 0x60000000, 3, api.Result{Err: api.ErrFuel, Steps: 3, Extracts: 1, Indexes: 1, Bits: 1}},
	} {
		isRun(t, x.family, codeOf(x.text), address(x.w), x.fuel, x.want)
	}
}

// TestP1901Families: ErrFamily comes ahead of all, whatever else is wrong.
func TestP1901Families(t *testing.T) {
	for _, family := range noFamilies {
		for _, text := range edges() {
			for _, w := range []api.Word{{}, {Lo: 1}, {Hi: math.MaxUint64, Lo: math.MaxUint64}} {
				for _, fuel := range []int{math.MinInt, -1, 0, 1, 9, math.MaxInt} {
					isRun(t, family, codeOf(text), w, fuel, api.Result{Err: api.ErrFamily})
				}
				isStepped(t, family, codeOf(text), w, life{so: []api.Result{{}}, at: []int{0}, end: api.Result{Err: api.ErrFamily}})
			}
		}
	}
}

// TestP1901Wide: each bit behind the family's by itself; ErrWide comes ahead of ErrFuel and of whatever is wrong with the code.
func TestP1901Wide(t *testing.T) {
	for i := range 128 {
		w := api.Word{Hi: 1 << 63 >> i}
		if i >= 64 {
			w = api.Word{Lo: 1 << 63 >> (i - 64)}
		}
		for _, fuel := range fuels {
			want := api.Result{Err: api.ErrFuel}
			if fuel > 0 {
				want = api.Result{Hop: 9, Steps: 1}
			}
			isRun(t, 128, codeOf("r9"), w, fuel, want)
			if i >= 32 {
				want = api.Result{Err: api.ErrWide}
			}
			isRun(t, 32, codeOf("r9"), w, fuel, want)
		}
		if i < 32 {
			continue
		}
		for _, text := range edges() {
			for _, ahead := range []uint64{0, 1 << 63, 0xffffffff << 32} {
				wide := api.Word{Hi: w.Hi | ahead, Lo: w.Lo}
				for _, fuel := range []int{-1, 0, 9} {
					isRun(t, 32, codeOf(text), wide, fuel, api.Result{Err: api.ErrWide})
				}
				isStepped(t, 32, codeOf(text), wide, life{so: []api.Result{{}}, at: []int{0}, end: api.Result{Err: api.ErrWide}})
			}
		}
	}
}

// TestP1901Fuel: below 0, none, one less than is wanted, just enough, more; of an answer and of an error.
func TestP1901Fuel(t *testing.T) {
	for steps := range 40 {
		for _, fuel := range append(fuels, steps-1, steps, steps+1, steps+2) {
			want := api.Result{Steps: max(0, min(fuel, steps)), Err: api.ErrFuel}
			if fuel > steps {
				want = api.Result{Steps: steps + 1, Hop: 9}
			}
			isRun(t, 32, codeOf(times(steps, "j1")+"r9"), api.Word{}, fuel, want)
			for text, e := range map[string]api.Errno{"": api.ErrBounds, "#00000000": api.ErrOp, "x0": api.ErrArg, "i1:00000000": api.ErrMap, "i1:80000000": api.ErrMap} {
				want := api.Result{Steps: max(0, min(fuel, steps)), Err: api.ErrFuel}
				if fuel > steps {
					want.Err = e
				}
				isRun(t, 32, codeOf(times(steps, "j1")+text), api.Word{}, fuel, want)
			}
		}
	}
}

// TestP1901MaxFuel: the longest way of code that may be run takes it to its end.
func TestP1901MaxFuel(t *testing.T) {
	b := codeOf(times(127, "x1 i1:80000000 j1") + "x1 i1:80000000 r9")
	want := api.Result{Hop: 9, Steps: 384, Extracts: 128, Indexes: 128, Bits: 128}
	isRun(t, 128, b, api.Word{}, api.MaxFuel, want)
	isRun(t, 128, b, api.Word{}, 384, want)
	isRun(t, 128, b, api.Word{}, 383, api.Result{Err: api.ErrFuel, Steps: 383, Extracts: 128, Indexes: 128, Bits: 128})
	isRun(t, 32, b, api.Word{}, api.MaxFuel, api.Result{Err: api.ErrBits, Steps: 96, Extracts: 32, Indexes: 32, Bits: 32})
}

// comings are ways to a place at which a run may stand: the code up to there, and what is told.
var comings = []struct {
	text string
	w    uint32
	so   api.Result
}{
	{"", 0, api.Result{}},
	{"x7", 0xffffffff, api.Result{Steps: 1, Extracts: 1, Bits: 7}},
	{"j1", 0, api.Result{Steps: 1}},
	{"j4 r1 #ffffffff x25", 0, api.Result{Steps: 1}},
	{"x1 i1:80000000", 0xffffffff, api.Result{Steps: 2, Extracts: 1, Indexes: 1, Bits: 1}},
	{"x1 i1:c0000000", 0, api.Result{Steps: 2, Extracts: 1, Indexes: 1, Bits: 1}},
	{"x1 i1:c0000000 r1", 0xffffffff, api.Result{Steps: 2, Extracts: 1, Indexes: 1, Bits: 1}},
	{"x3 i3:ff000000 r1 #00000000 x0 r2 j1", 0xa0000000, api.Result{Steps: 2, Extracts: 1, Indexes: 1, Bits: 3}},
	{"x6 i6:80000000:80000001 r1 r2", 0xffffffff, api.Result{Steps: 2, Extracts: 1, Indexes: 1, Bits: 6}},
	{"x1 i1:80000000 j2 r1", 0, api.Result{Steps: 3, Extracts: 1, Indexes: 1, Bits: 1}},
	{times(32, "x1"), 0, api.Result{Steps: 32, Extracts: 32, Bits: 32}},
}

// TestP1901DecodeErrors: each of code.Decode's errors at each place where a run may stand, also at a word behind the code.
func TestP1901DecodeErrors(t *testing.T) {
	for _, c := range comings {
		ahead := codeOf(c.text)
		for _, x := range []struct {
			text string
			cut  int
			e    api.Errno
		}{
			{"", 0, api.ErrBounds}, {"r1", 1, api.ErrBounds}, {"r1", 2, api.ErrBounds}, {"r1", 3, api.ErrBounds}, {"#05000000", 1, api.ErrBounds},
			{"#00000000", 0, api.ErrOp}, {"#05000000", 0, api.ErrOp}, {"#ff000001", 0, api.ErrOp}, {"#01000101", 0, api.ErrOp}, {"#01010001", 0, api.ErrOp}, {"#02000101", 0, api.ErrOp}, {"#02010001", 0, api.ErrOp}, {"#04010000", 0, api.ErrOp}, {"#80000000", 0, api.ErrOp},
			{"x0 r1", 0, api.ErrArg}, {"x25 r1", 0, api.ErrArg}, {"x255 r1", 0, api.ErrArg}, {"i0:80000000 r1", 0, api.ErrArg}, {"i25:80000000 r1", 0, api.ErrArg}, {"j0 r1", 0, api.ErrArg},
			{"i1", 0, api.ErrBounds}, {"i7:80000000:80000000:80000000", 0, api.ErrBounds}, {"i7:80000000:80000000:80000000:80000000", 1, api.ErrBounds}, {"i24:80000000", 0, api.ErrBounds}, {"i7:00000000", 0, api.ErrBounds},
			{"i7:00000000:80000000:80000000:80000000 r1", 0, api.ErrMap}, {"i7:7fffffff:ffffffff:ffffffff:ffffffff r1", 0, api.ErrMap}, {"i4:80008000 r1", 0, api.ErrMap}, {"i1:a0000000 r1", 0, api.ErrMap},
		} {
			tail := codeOf(x.text)
			b := append(slices.Clone(ahead), tail[:len(tail)-x.cut]...)
			want := c.so
			want.Err = x.e
			for _, fuel := range []int{c.so.Steps + 1, c.so.Steps + 2, math.MaxInt} {
				isRun(t, 32, b, address(c.w), fuel, want)
			}
			want.Err = api.ErrFuel
			isRun(t, 32, b, address(c.w), c.so.Steps, want)
			isRunByTheWords(t, 32, b, address(c.w))
		}
	}
}

// TestP1901Behind: words far behind the code.
func TestP1901Behind(t *testing.T) {
	for _, n := range []int{2, 3, 255, 256, 65535, 65536, 1 << 20, 1<<24 - 1} {
		b := codeOf("j" + strconv.Itoa(n) + " r1")
		isRun(t, 32, b, api.Word{}, 9, api.Result{Err: api.ErrBounds, Steps: 1})
		m := New(32, b, api.Word{})
		if !m.Step() || m.Place() != n || m.Step() || m.Place() != n || m.Result() != (api.Result{Err: api.ErrBounds, Steps: 1}) {
			t.Errorf("P1902: a jump of %d: %d, %+v", n, m.Place(), m.Result())
		}
	}
}

// TestP1901Bits: an OExtract of each N, where just so many bits are left, fewer, more.
func TestP1901Bits(t *testing.T) {
	for _, family := range families {
		for n := 1; n <= 24; n++ {
			for left := range 40 {
				if left > family {
					continue
				}
				taken, text, steps := family-left, "", 0
				for k := taken; k > 0; k -= min(k, 24) {
					text += "x" + strconv.Itoa(min(k, 24)) + " "
					steps++
				}
				b := codeOf(text + "x" + strconv.Itoa(n) + " r9")
				want := api.Result{Err: api.ErrBits, Steps: steps, Extracts: steps, Bits: taken}
				if n <= left {
					want = api.Result{Hop: 9, Steps: steps + 2, Extracts: steps + 1, Bits: taken + n}
				}
				isRun(t, family, b, address(0xdeadbeef), api.MaxFuel, want)
				isRunByTheWords(t, family, b, address(0xdeadbeef))
			}
		}
	}
}

// TestP1901BitsOneByOne: as many as there are, and one more; also with indexes between.
func TestP1901BitsOneByOne(t *testing.T) {
	for _, family := range families {
		w := api.Word{Hi: 0xdeadbeef << 32}
		all := api.Result{Steps: family, Extracts: family, Bits: family}
		done, lacks := all, all
		done.Steps, done.Hop = family+1, 3
		lacks.Err = api.ErrBits
		isRun(t, family, codeOf(times(family, "x1")+"r3"), w, 999, done)
		isRun(t, family, codeOf(times(family, "x1")+"x1 r3"), w, 999, lacks)
		isRun(t, family, codeOf(times(family, "x1")+"x1 r3"), w, family+1, lacks)
		lacks.Err = api.ErrFuel
		isRun(t, family, codeOf(times(family, "x1")+"x1 r3"), w, family, lacks)
		lacks.Err, lacks.Steps, lacks.Indexes = api.ErrBits, 2*family, family
		isRun(t, family, codeOf(times(family+1, "x1 i1:80000000")+"r3"), w, 999, lacks)
	}
}

// TestP1901Unasked: an OIndex whose bits no OExtract of the same N took in the step ahead.
func TestP1901Unasked(t *testing.T) {
	for _, c := range comings {
		for n := 1; n <= 7; n++ {
			if c.text == "x7" && n == 7 || c.so.Extracts == 32 && n == 1 {
				continue
			}
			b := codeOf(c.text)
			b = append(b, bytesOf([]uint32{2<<24 | uint32(n)})...)
			b = append(b, bytesOf(slices.Repeat([]uint32{1 << 31}, max(1, 1<<n/32)))...)
			b = append(b, codeOf("r1 r2 r3 r4")...)
			want := c.so
			want.Err = api.ErrMap
			isRun(t, 32, b, address(c.w), 99, want)
			isRunByTheWords(t, 32, b, address(c.w))
		}
	}
	for text, want := range map[string]api.Result{
		"x1 j1 i1:c0000000 r1 r2":                         {Steps: 2, Extracts: 1, Bits: 1},
		"x1 i1:80000000 i1:80000000 r1":                   {Steps: 2, Extracts: 1, Indexes: 1, Bits: 1},
		"x1 i1:80000000 j1 i1:80000000 r1":                {Steps: 3, Extracts: 1, Indexes: 1, Bits: 1},
		"x1 x2 i1:80000000 r1":                            {Steps: 2, Extracts: 2, Bits: 3},
		"x2 x1 i2:80000000 r1":                            {Steps: 2, Extracts: 2, Bits: 3},
		"x1 x1 i2:80000000 r1":                            {Steps: 2, Extracts: 2, Bits: 2},
		"x5 i4:80000000 r1":                               {Steps: 1, Extracts: 1, Bits: 5},
		"x4 i5:80000000 r1":                               {Steps: 1, Extracts: 1, Bits: 4},
		"x2 i2:80000000 j2 r1 i2:80000000 r1":             {Steps: 3, Extracts: 1, Indexes: 1, Bits: 2},
		"x1 i1:80000000 x2 i2:80000000 i1:80000000 r1":    {Steps: 4, Extracts: 2, Indexes: 2, Bits: 3},
		"x1 i1:80000000 x2 i2:80000000 i2:80000000 r1":    {Steps: 4, Extracts: 2, Indexes: 2, Bits: 3},
		"x1 i1:80000000 x1 i1:80000000 x1 i2:80000000":    {Steps: 5, Extracts: 3, Indexes: 2, Bits: 3},
		"x24 i23" + ":80000000" + " r1":                   {Steps: 1, Extracts: 1, Bits: 24},
		"x1 i1:80000000 j1 x1 j1 x1 j1 i1:80000000 r1":    {Steps: 7, Extracts: 3, Indexes: 1, Bits: 3},
		"x1 i1:80000000 j1 x1 j1 x1 j1 i1:c0000000 r1":    {Steps: 7, Extracts: 3, Indexes: 1, Bits: 3},
		"x1 i1:80000000 j1 x1 j1 x1 j1 j1 i1:80000000 ":   {Steps: 8, Extracts: 3, Indexes: 1, Bits: 3},
		"j1 x1 i1:80000000 j1 i1:80000000 r1":             {Steps: 4, Extracts: 1, Indexes: 1, Bits: 1},
		"j2 r1 x1 i1:80000000 j2 r1 i1:80000000 r1":       {Steps: 4, Extracts: 1, Indexes: 1, Bits: 1},
		"j2 r1 x3 i3:80000000 x3 i3:80000000 i3:80000000": {Steps: 5, Extracts: 2, Indexes: 2, Bits: 6},
	} {
		want.Err = api.ErrMap
		b := codeOf(text)
		if text == "x24 i23:80000000 r1" {
			b = append(b, make([]byte, 1<<23/8)...)
		}
		isRun(t, 32, b, api.Word{}, 99, want)
	}
}

// TestP1901BadMapFirst: of an OIndex that may not be there code.Decode's error is told.
func TestP1901BadMapFirst(t *testing.T) {
	isRun(t, 32, codeOf("i6:80000000"), api.Word{}, 9, api.Result{Err: api.ErrBounds})
	isRun(t, 32, codeOf("j1 i0:80000000"), api.Word{}, 9, api.Result{Err: api.ErrArg, Steps: 1})
	isRun(t, 32, codeOf("x2 i1"), api.Word{}, 9, api.Result{Err: api.ErrBounds, Steps: 1, Extracts: 1, Bits: 2})
}

// TestP1901Ranks: all maps of 1 to 3 bits, all numbers: it goes on at the entry of the last place that is set up to it; a map whose first place is not set, so that a rank were 0, is none.
func TestP1901Ranks(t *testing.T) {
	for n := 1; n <= 3; n++ {
		for m := range uint32(1) << (1 << n) {
			places := m << (32 - 1<<n)
			b := bytesOf([]uint32{1<<24 | uint32(n), 2<<24 | uint32(n), places})
			b = append(b, codeOf("r1 r2 r3 r4 r5 r6 r7 r8")...)
			for number := range 1 << n {
				rank := 0
				for place := range number + 1 {
					rank += int(places >> (31 - place) & 1)
				}
				want := api.Result{Hop: rank, Steps: 3, Extracts: 1, Indexes: 1, Bits: n}
				if places>>31 == 0 {
					want = api.Result{Err: api.ErrMap, Steps: 1, Extracts: 1, Bits: n}
				}
				for _, rest := range []uint32{0, 1<<(32-n) - 1} {
					isRun(t, 32, b, address(uint32(number)<<(32-n)|rest), 3, want)
				}
			}
		}
	}
}

// TestP1901GreatMaps: maps of each size, only a few places of which are set; numbers around these.
func TestP1901GreatMaps(t *testing.T) {
	next := counter()
	for n := 1; n <= 24; n++ {
		set := []int{0, 1<<n - 1}
		for range 6 {
			set = append(set, upTo(next, 1<<n), min(1<<n-1, 31+upTo(next, 3)))
		}
		slices.Sort(set)
		set = slices.Compact(set)
		m := make([]uint32, max(1, 1<<n/32))
		var entries []uint32
		for k, place := range set {
			m[place/32] |= 1 << (31 - place%32)
			entries = append(entries, 4<<24|uint32(k+1))
		}
		b := bytesOf(slices.Concat([]uint32{1<<24 | uint32(n), 2<<24 | uint32(n)}, m, entries))
		for k, place := range set {
			last := 1<<n - 1
			if k+1 < len(set) {
				last = set[k+1] - 1
			}
			for _, number := range []int{place, last} {
				isRun(t, 32, b, address(uint32(number)<<(32-n)), 3, api.Result{Hop: k + 1, Steps: 3, Extracts: 1, Indexes: 1, Bits: n})
			}
		}
	}
}

// TestP1901WhichBits: from each bit on each count of bits is taken as the number that they are. All places of the map are set, so that a machine goes on as many words behind it as the number tells.
func TestP1901WhichBits(t *testing.T) {
	next := counter()
	for _, family := range families {
		for n := 1; n <= 11; n++ {
			full := slices.Repeat([]uint32{math.MaxUint32}, max(1, 1<<n/32))
			if n < 5 {
				full[0] <<= 32 - 1<<n
			}
			for from := 0; from+n <= family; from++ {
				var l []uint32
				for k := from; k > 0; k -= min(k, 24) {
					l = append(l, 1<<24|uint32(min(k, 24)))
				}
				l = slices.Concat(l, []uint32{1<<24 | uint32(n), 2<<24 | uint32(n)}, full)
				w := someAddress(next, family)
				number := 0
				for k := from; k < from+n; k++ {
					number = 2*number + bitOf(w, k)
				}
				m := New(family, bytesOf(l), w)
				for m.Step() {
				}
				if m.Place() != len(l)+number || m.Result().Err != api.ErrBounds || m.Result().Bits != from+n {
					t.Fatalf("P1901: %d bits from bit %d on of %x: %d, %+v", n, from, w, m.Place()-len(l), m.Result())
				}
			}
		}
	}
}

// TestP1901WhichBits24: the same of as many bits as can be taken at once.
func TestP1901WhichBits24(t *testing.T) {
	head := []uint32{1<<24 | 24, 2<<24 | 24}
	full := slices.Repeat([]uint32{math.MaxUint32}, 1<<24/32)
	next := counter()
	for _, x := range []struct{ family, from int }{{32, 0}, {32, 8}, {128, 0}, {128, 40}, {128, 50}, {128, 63}, {128, 64}, {128, 104}} {
		var l []uint32
		for k := x.from; k > 0; k -= min(k, 24) {
			l = append(l, 1<<24|uint32(min(k, 24)))
		}
		l = slices.Concat(l, head, full)
		w := someAddress(next, x.family)
		number := 0
		for k := range 24 {
			number = 2*number + bitOf(w, x.from+k)
		}
		m := New(x.family, bytesOf(l), w)
		for m.Step() {
		}
		if m.Place() != len(l)+number || m.Result().Indexes != 1 {
			t.Errorf("P1901: from bit %d on of %x: %d, want %d", x.from, w, m.Place()-len(l), number)
		}
	}
}

// TestP1901Answers: each next hop there is; some behind a block.
func TestP1901Answers(t *testing.T) {
	for hop := range api.MaxHop + 1 {
		b := []byte{4, 0, byte(hop >> 8), byte(hop)}
		isRun(t, 32, b, api.Word{}, 1, api.Result{Hop: hop, Steps: 1})
		isRun(t, 128, append(codeOf("x1 i1:80000000"), b...), api.Word{Lo: 1}, 3, api.Result{Hop: hop, Steps: 3, Extracts: 1, Indexes: 1, Bits: 1})
	}
}

// TestP1901Jumps: it goes on just so many words behind the jump's place.
func TestP1901Jumps(t *testing.T) {
	for _, ahead := range []int{0, 1, 5} {
		for n := 1; n <= 300; n++ {
			l := wordsOf(times(ahead, "j1") + "j" + strconv.Itoa(n))
			for k := 1; k <= n+2; k++ {
				l = append(l, 4<<24|uint32(k))
			}
			isRun(t, 32, bytesOf(l), api.Word{}, 99, api.Result{Hop: n, Steps: ahead + 2})
		}
	}
}

// TestP1901FarJumps: the farthest there are, too.
func TestP1901FarJumps(t *testing.T) {
	b := make([]byte, 4<<24)
	for _, n := range []int{65535, 65536, 1 << 20, 1<<24 - 1} {
		copy(b, []byte{3, byte(n >> 16), byte(n >> 8), byte(n)})
		copy(b[4*n:], []byte{4, 0, 1, 2})
		isRun(t, 32, b, api.Word{}, 2, api.Result{Hop: 258, Steps: 2})
		isRun(t, 32, b[:4*n+3], api.Word{}, 2, api.Result{Err: api.ErrBounds, Steps: 1})
		clear(b[4*n : 4*n+4])
		isRun(t, 32, b, api.Word{}, 2, api.Result{Err: api.ErrOp, Steps: 1})
	}
}

// TestP1901Samples: codes of all kinds, by the chapter's words.
func TestP1901Samples(t *testing.T) {
	next := counter()
	for _, b := range samples() {
		for _, family := range families {
			for range 4 {
				isRunByTheWords(t, family, b, someAddress(next, family))
			}
		}
	}
}

// TestP1901AllShort: all codes of at most five words out of a dozen.
func TestP1901AllShort(t *testing.T) {
	some := wordsOf("x1 x2 x20 i1 i2 #80000000 #c0000000 #00000000 j1 j2 r5 x25")
	words := []api.Word{{}, address(0xffffffff), address(0x40000000)}
	ends := map[api.Errno]int{}
	var all func(l []uint32, more int)
	all = func(l []uint32, more int) {
		b := bytesOf(l)
		for _, w := range words {
			r := lifeOf(32, b, w)
			for fuel := range len(l) + 2 {
				isRun(t, 32, b, w, fuel, r.by(fuel))
			}
			ends[r.end.Err]++
		}
		if more > 0 {
			for _, x := range some {
				all(append(slices.Clone(l), x), more-1)
			}
		}
	}
	all(nil, 5)
	if len(ends) != 6 {
		t.Errorf("they end with %v", ends)
	}
}

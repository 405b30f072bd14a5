package delta

import (
	"syscall"
	"testing"

	"turnpike/api"
)

// TestP2103WideRows: rows of 2^32 bytes that take up no memory, and that nobody may read.
func TestP2103WideRows(t *testing.T) {
	const wide = 1 << 32
	row, err := syscall.Mmap(-1, 0, wide, syscall.PROT_NONE, syscall.MAP_ANON|syscall.MAP_PRIVATE|syscall.MAP_NORESERVE)
	if err != nil {
		t.Skip("no room for addresses: ", err)
	}
	defer syscall.Munmap(row)
	for _, x := range []struct {
		a    []byte
		l    []api.Patch
		want api.Errno
	}{
		{row, nil, api.ErrWide},
		{row, patches(patch(wide, 0, "")), api.ErrWide},
		{row, patches(patch(wide, 1, "")), api.ErrPatch},
		{[]byte("abc"), patches(patch(1, 1, "x"), api.Patch{Data: row}), api.ErrWide},
		{[]byte("abc"), patches(api.Patch{Data: row}, patch(4, 0, "")), api.ErrPatch},
	} {
		if b, e := Bytes(x.a, x.l); len(b) != 0 || e != x.want {
			t.Errorf("P2103: Bytes of %d bytes: %d bytes, %v; want %v", len(x.a), len(b), e, x.want)
		}
	}
	if e := mayBeWritten(0, patches(api.Patch{Data: row[:wide-1]})); e != api.OK {
		t.Errorf("P2103: a Data that is as long as can be: %v", e)
	}
	if n := Weight(patches(api.Patch{Data: row}, patch(0, 0, "x"), api.Patch{Data: row})); n != 2*wide+1 {
		t.Errorf("P2102: Weight: %d", n)
	}
}

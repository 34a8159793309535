package sluice_test

import (
	"bytes"
	"slices"
	"testing"

	"sluice/api"
	"sluice/sluice"
)

// pairs: instructions beside their bytes.
func pairs() (insns, []byte) {
	return insns{
		withK(api.RetK, 0x7fff0000),
		{Code: 0xfedc, Jt: 1, Jf: 255, K: 0x12345678},
		{},
		{Code: 0xffff, Jt: 0xff, Jf: 0xff, K: 0xffffffff},
		{Code: 0x0100, Jt: 2, Jf: 3, K: 0x01000000},
	}, []byte("\x06\x00\x00\x00\x00\x00\xff\x7f" +
		"\xdc\xfe\x01\xff\x78\x56\x34\x12" +
		"\x00\x00\x00\x00\x00\x00\x00\x00" +
		"\xff\xff\xff\xff\xff\xff\xff\xff" +
		"\x00\x01\x02\x03\x00\x00\x00\x01")
}

func TestP3DecodeReadsEachField(t *testing.T) {
	l, b := pairs()
	got, e := sluice.Decode(b)
	if e != api.OK || !slices.Equal(got, l) {
		t.Errorf("P3: Decode = %v, %d, want %v", got, e, l)
	}
}

func TestP3EncodeWritesEachField(t *testing.T) {
	l, b := pairs()
	if got := sluice.Encode(l); !bytes.Equal(got, b) {
		t.Errorf("P3: Encode = %x, want %x", got, b)
	}
}

func TestP3DecodeLengths(t *testing.T) {
	for n := range 8*api.MaxInsns + 100 {
		want, insns := api.OK, n/8
		if n == 0 || n%8 != 0 || n/8 > 4096 {
			want, insns = api.ErrLength, 0
		}
		if l, e := sluice.Decode(make([]byte, n)); e != want || len(l) != insns {
			t.Fatalf("P3: Decode of %d bytes: %d instructions, %d, want %d, %d", n, len(l), e, insns, want)
		}
	}
	if l, e := sluice.Decode(nil); l != nil || e != api.ErrLength {
		t.Errorf("P3: Decode of nil: %v, %d", l, e)
	}
	if l, e := sluice.Decode(make([]byte, 16*api.MaxInsns)); len(l) != 0 || e != api.ErrLength {
		t.Errorf("P3: Decode of twice too many: %d instructions, %d", len(l), e)
	}
}

func TestP3EncodeLengths(t *testing.T) {
	for _, n := range []int{0, 1, 2, api.MaxInsns, api.MaxInsns + 1, 3 * api.MaxInsns} {
		b := sluice.Encode(slices.Repeat(insns{{Code: 1, Jt: 2, Jf: 3, K: 4}}, n))
		if !bytes.Equal(b, bytes.Repeat([]byte{1, 0, 2, 3, 4, 0, 0, 0}, n)) {
			t.Errorf("P3: Encode of %d instructions: %d bytes, or wrong ones", n, len(b))
		}
	}
	if b := sluice.Encode(nil); len(b) != 0 {
		t.Errorf("P3: Encode of nil: %x", b)
	}
}

func TestP3ThereAndBack(t *testing.T) {
	b := make([]byte, 8*256)
	for i := range b {
		b[i] = byte(i*i*7 + i>>3)
	}
	l, e := sluice.Decode(b)
	if back := sluice.Encode(l); e != api.OK || !bytes.Equal(back, b) {
		t.Errorf("P3: Encode of what Decode read is not what was read, %d", e)
	}
}

package codec_test

import (
	"bytes"
	"encoding/binary"
	"hash/crc32"
	"testing"

	"hayloft/api"
	"hayloft/codec"
)

// plainSum is the checksum bit by bit, as the document tells it.
func plainSum(b []byte) uint32 {
	register := uint32(0xffffffff)
	for _, x := range b {
		register ^= uint32(x)
		for range 8 {
			low := register & 1
			register >>= 1
			if low == 1 {
				register ^= 0xedb88320
			}
		}
	}
	return ^register
}

// some makes n bytes that do not repeat soon.
func some(n int) []byte {
	b := make([]byte, n)
	x := uint32(n + 1)
	for i := range b {
		x = x*1664525 + 1013904223
		b[i] = byte(x >> 24)
	}
	return b
}

// framed lays out a frame by hand, whatever its length says.
func framed(length uint32, body []byte) []byte {
	b := binary.BigEndian.AppendUint32(nil, length)
	b = binary.BigEndian.AppendUint32(b, crc32.ChecksumIEEE(b))
	b = append(b, body...)
	return binary.BigEndian.AppendUint32(b, crc32.ChecksumIEEE(body))
}

// wantRefused checks Unframe's error, and that nothing is answered beside it.
func wantRefused(t *testing.T, what string, b []byte, e api.Errno) {
	t.Helper()
	if body, n, got := codec.Unframe(b); len(body) != 0 || n != 0 || got != e {
		t.Errorf("%s: %d bytes, %d, %d; want %d", what, len(body), n, got, e)
	}
}

// P1.4
func TestSum(t *testing.T) {
	if x := codec.Sum([]byte("123456789")); x != 0xcbf43926 {
		t.Errorf("123456789: %08x", x)
	}
	if x := codec.Sum(nil); x != 0 {
		t.Errorf("nothing: %08x", x)
	}
	for x := range 256 {
		b := []byte{byte(x)}
		if codec.Sum(b) != plainSum(b) {
			t.Errorf("byte %d: %08x", x, codec.Sum(b))
		}
	}
	for n := range 300 {
		b := some(n)
		before := bytes.Clone(b)
		if x := codec.Sum(b); x != plainSum(b) || x != crc32.ChecksumIEEE(b) {
			t.Errorf("%d bytes: %08x", n, x)
		}
		if !bytes.Equal(b, before) {
			t.Error("what was handed in was changed")
		}
	}
}

// P1.5
func TestFrame(t *testing.T) {
	if f, e := codec.Frame(nil); e != api.OK || !bytes.Equal(f, unhex(t, "00000000 2144df1c 00000000")) {
		t.Errorf("nothing: %x, %d", f, e)
	}
	for _, n := range []int{0, 1, 2, 255, 256, 70000} {
		body := some(n)
		f, e := codec.Frame(body)
		if e != api.OK || !bytes.Equal(f, framed(uint32(n), body)) {
			t.Errorf("%d bytes: %d bytes, %d", n, len(f), e)
		}
		got, size, e := codec.Unframe(f)
		if !bytes.Equal(got, body) || size != n+12 || e != api.OK {
			t.Errorf("%d bytes: Unframe: %d bytes, %d, %d", n, len(got), size, e)
		}
	}
}

// P1.5, P1.8 at MaxFrame.
func TestFrameGreatest(t *testing.T) {
	body := some(api.MaxFrame + 1)
	if f, e := codec.Frame(body); len(f) != 0 || e != api.ErrCodecLong {
		t.Errorf("one too many: %d bytes, %d", len(f), e)
	}
	body = body[:api.MaxFrame]
	f, e := codec.Frame(body)
	if e != api.OK || len(f) != api.MaxFrame+12 {
		t.Fatalf("MaxFrame bytes: %d bytes, %d", len(f), e)
	}
	got, n, e := codec.Unframe(append(f, 1, 2, 3))
	if !bytes.Equal(got, body) || n != len(f) || e != api.OK {
		t.Errorf("Unframe: %d bytes, %d, %d", len(got), n, e)
	}
	for _, n := range []int{7, 8, api.MaxFrame + 8, api.MaxFrame + 11} {
		wantRefused(t, "cut off", f[:n], api.ErrCodecShort)
	}
	for _, at := range []int{0, 7, 8, api.MaxFrame / 2, api.MaxFrame + 7, api.MaxFrame + 11} {
		f[at] ^= 0x10
		wantRefused(t, "a bit turned", f, api.ErrCodecSum)
		f[at] ^= 0x10
	}
}

func TestUnframeFaults(t *testing.T) {
	good := framed(3, []byte("abc"))
	badHead, badTail := bytes.Clone(good), bytes.Clone(good)
	badHead[4]++
	badTail[14]++
	badLength := framed(api.MaxFrame+1, nil)
	badLength[7]++
	cases := []struct {
		name string
		b    []byte
		e    api.Errno
	}{
		{"nil", nil, api.ErrCodecShort},
		{"nothing", []byte{}, api.ErrCodecShort},
		{"7 bytes with a wrong head", badHead[:7], api.ErrCodecShort},
		{"zeros", make([]byte, 12), api.ErrCodecSum},
		{"8 bytes with a wrong head", badHead[:8], api.ErrCodecSum},
		{"a wrong head", badHead, api.ErrCodecSum},
		{"a wrong head and too long", badLength, api.ErrCodecSum},
		{"too long", framed(api.MaxFrame+1, nil), api.ErrCodecLong},
		{"too long, head alone", framed(api.MaxFrame+1, nil)[:8], api.ErrCodecLong},
		{"greatest length", framed(0xffffffff, []byte("abc")), api.ErrCodecLong},
		{"too long, and all there", framed(api.MaxFrame+1, make([]byte, api.MaxFrame+1)), api.ErrCodecLong},
		{"MaxFrame, and not there", framed(api.MaxFrame, nil), api.ErrCodecShort},
		{"head alone", good[:8], api.ErrCodecShort},
		{"the last byte lacks", good[:14], api.ErrCodecShort},
		{"a wrong tail that is cut off", badTail[:14], api.ErrCodecShort},
		{"a wrong tail", badTail, api.ErrCodecSum},
		{"a length too small by one", framed(2, []byte("abc")), api.ErrCodecSum},
		{"a length too great by one", framed(4, []byte("abc")), api.ErrCodecShort},
	}
	for _, c := range cases {
		before := bytes.Clone(c.b)
		wantRefused(t, c.name, c.b, c.e)
		if !bytes.Equal(c.b, before) {
			t.Errorf("%s: what was handed in was changed", c.name)
		}
	}
}

// P1.8
func TestFrameFollows(t *testing.T) {
	for n := range 40 {
		body := some(n)
		f, _ := codec.Frame(body)
		for more := range 20 {
			got, size, e := codec.Unframe(append(bytes.Clone(f), some(more)...))
			if !bytes.Equal(got, body) || size != len(f) || e != api.OK {
				t.Errorf("%d bytes, %d behind: %x, %d, %d", n, more, got, size, e)
			}
		}
		for cut := range len(f) {
			wantRefused(t, "cut off", f[:cut], api.ErrCodecShort)
		}
		for at := range 8 * len(f) {
			f[at/8] ^= 1 << (at % 8)
			wantRefused(t, "a bit turned", f, api.ErrCodecSum)
			f[at/8] ^= 1 << (at % 8)
		}
	}
}

// R5
func TestFrameMemory(t *testing.T) {
	room := []byte("abcdefghijklmnopqrstuvwxyz")
	f, _ := codec.Frame(room[:3])
	if string(room) != "abcdefghijklmnopqrstuvwxyz" {
		t.Errorf("what was handed in, or its spare room, was changed: %q", room)
	}
	scribble(room)
	if !bytes.Equal(f, framed(3, []byte("abc"))) {
		t.Errorf("what was handed in was kept: %x", f)
	}
	first, _, _ := codec.Unframe(f)
	second, _, _ := codec.Unframe(f)
	scribble(first)
	if !bytes.Equal(f, framed(3, []byte("abc"))) || string(second) != "abc" {
		t.Error("an answer is a piece of what was handed in, or of another answer")
	}
	scribble(f)
	if string(second) != "abc" {
		t.Errorf("what was handed in was kept: %q", second)
	}
}

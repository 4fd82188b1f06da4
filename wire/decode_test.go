package wire_test

import (
	"slices"
	"strconv"
	"strings"
	"testing"

	"hayloft/api"
	"hayloft/wire"
)

// What is no frame, or has something behind it, is no message.
func TestNoFrame(t *testing.T) {
	for _, m := range each() {
		b := framed(modelOf(m))
		for n := range b {
			wantNone(t, "cut off", b[:n])
		}
		wantNone(t, "a byte more", append(slices.Clone(b), 0))
		wantNone(t, "twice", append(slices.Clone(b), b...))
		wantNone(t, "a byte ahead", append([]byte{0}, b...))
		wantNone(t, "no frame around it", modelOf(m))
		wantNone(t, "two frames around it", framed(b))
	}
	wantNone(t, "a byte", []byte{0})
	wantNone(t, "a frame of nothing", framed(nil))
	wantNone(t, "zeros", make([]byte, 100))
	long := framed(nil)
	long[0] = 255
	wantNone(t, "a frame that says it is long", long)
}

// A frame that is right, of a body that is cut off, or goes on.
func TestBodyCut(t *testing.T) {
	for _, m := range each() {
		body := modelOf(m)
		for n := range body {
			wantNone(t, "a body that is cut off", framed(body[:n]))
		}
		for x := range 256 {
			wantNone(t, "a body that goes on", framed(append(slices.Clone(body), byte(x))))
		}
	}
}

// Which kinds there are, which nodes, which truths, wherever a byte of these stands.
func TestBytesThatMustBeSmall(t *testing.T) {
	wantByte := func(what string, m api.Message, at, least, most int) {
		t.Helper()
		for x := range 256 {
			body := modelOf(m)
			body[at] = byte(x)
			got, e := wire.Decode(framed(body))
			if x < least || x > most {
				wantNone(t, what+" "+strconv.Itoa(x), framed(body))
			} else if e != api.OK || !slices.Equal(modelOf(got), body) {
				t.Errorf("P17.2: %s %d: %+v, %d", what, x, got, e)
			}
		}
	}
	wantByte("kind", api.Message{Kind: api.MsgMark}, 0, api.MsgMark, api.MsgProbe) // no other one has just a Long
	for _, m := range each() {
		wantByte("From", m, 1, 0, api.MaxNodes)
		wantByte("To", m, 2, 0, api.MaxNodes)
	}
	wantByte("Yes", api.Message{Kind: api.MsgVote, Txn: 7}, 11, 0, 1)
	wantByte("No", api.Message{Kind: api.MsgRows, Ask: 7}, 13, 0, 1)
	wantByte("Wiped", api.Message{Kind: api.MsgHello, Ask: 7}, 19, 0, 1)
	wantByte("Node", api.Message{Kind: api.MsgFetch, Attempt: 7}, 3, 0, api.MaxNodes)
}

// No byte but those of the twelve kinds begins a message, whatever is behind it.
func TestNoSuchKind(t *testing.T) {
	for kind := range 256 {
		if kind >= api.MsgPrepare && kind <= api.MsgProbe {
			continue
		}
		for n := range 60 {
			body := make([]byte, n+1)
			body[0] = byte(kind)
			wantNone(t, "kind "+strconv.Itoa(kind), framed(body))
		}
	}
}

const (
	zero  = "00 00 00 00 00 00 00 00 "
	scan  = "05 00 00 " + zero + zero
	rows1 = "06 00 00 " + zero + "00 00 00 " // how many versions there are is behind it
	part  = "01 00 00 " + zero + zero        // and here, how many inserts
	copy1 = "09 00 00 " + zero + "00 00 " + zero + zero + zero
	fetch = "08 00 00 00 " + zero
	name  = zero + "00 00 00 00 "
)

// wantTaken wants that a body is a message's, so that those that are like it are refused for what they have else.
func wantTaken(t *testing.T, body string) {
	t.Helper()
	b := framed(unhex(t, body))
	m, e := wire.Decode(b)
	if again, f := wire.Encode(m); e != api.OK || f != api.OK || !slices.Equal(again, b) {
		t.Errorf("P17.2: Decode(%s): %d, and again %x, %d", body, e, again, f)
	}
}

// A segment's number in bytes that it does not need, or too great.
func TestSegmentsRead(t *testing.T) {
	whole := func(number string) []string {
		return []string{
			scan + number + " 00", scan + "00 " + number,
			"06 00 00 " + zero + number + " 00 00 00", "06 00 00 " + zero + "00 " + number + " 00 00",
			fetch + number + " 00 " + zero + zero, fetch + "00 " + number + zero + zero,
			"09 00 00 " + zero + number + " 00 " + zero + zero + zero + "00", "09 00 00 " + zero + "00 " + number + zero + zero + zero + "00",
			part + "01 " + number + " 00 00 00 00 00 01 00 00", part + "01 00 " + number + " 00 00 00 00 01 00 00",
			part + "00 01 " + number + " 00 " + name, part + "00 01 00 " + number + name,
		}
	}
	for _, number := range []string{"00", "01", "fc", "fd 00 fd", "fd ff ff", "fe 00 01 00 00", "fe 7f ff ff ff"} {
		for _, body := range whole(number) {
			wantTaken(t, body)
		}
	}
	for _, number := range []string{"fd 00 00", "fd 00 fc", "fe 00 00 00 00", "fe 00 00 ff ff", "fe 80 00 00 00", "fe ff ff ff ff", "ff " + zero, "ff 00 00 00 00 7f ff ff ff", "ff 00 00 00 01 00 00 00 00", "ff ff ff ff ff ff ff ff ff", "ff 80 00 00 00 00 00 00 00"} {
		for _, body := range whole(number) {
			wantNone(t, "a segment's number "+number, framed(unhex(t, body)))
		}
	}
}

// A row that is none, or has something behind it.
func TestRowsRead(t *testing.T) {
	whole := func(row string) []string {
		return []string{
			rows1 + "01 " + name + row + zero, copy1 + "01 " + name + row + zero, part + "01 00 00 00 00 00 00 " + row + " 00",
			rows1 + "02 " + name + "01 00" + zero + name + row + zero, part + "02 00 00 00 00 00 00 01 00" + "00 00 00 00 00 00" + row + " 00",
		}
	}
	for _, row := range []string{"01 00", "02 01 00", "03 01 01 00", "03 01 01 01", "0a 01 02 " + zero, "03 01 03 00", "04 01 03 01 61", "11 10 " + strings.Repeat("00", 16), "43 01 03 40" + strings.Repeat("61", 64)} {
		for _, body := range whole(row) {
			wantTaken(t, body)
		}
	}
	for what, row := range map[string]string{
		"no byte": "00", "a value too few": "01 01", "a kind that is none": "02 01 04", "a bool of 2": "03 01 01 02", "an int cut off": "09 01 02 00 00 00 00 00 00 00",
		"a text cut off": "03 01 03 01", "a byte more": "02 00 00", "a value more": "03 01 00 00", "seventeen values": "12 11 " + strings.Repeat("00", 17),
		"a long text": "44 01 03 41 " + strings.Repeat("61", 65), "how many bytes, in too many": "fd 00 01 00", "likewise, more": "fe 00 00 00 01 00", "likewise, most": "ff 00 00 00 00 00 00 00 01 00",
		"more bytes than there are": "fc 00", "far more": "fe 7f ff ff ff 00", "the most": "ff ff ff ff ff ff ff ff ff 00",
	} {
		for _, body := range whole(row) {
			wantNone(t, "a row of "+what, framed(unhex(t, body)))
		}
	}
}

// A list that says that it has other things than there are.
func TestListsRead(t *testing.T) {
	version, insert, erase := name+"01 00"+zero, "00 00 00 00 00 00 01 00 ", "00 00 "+name
	for _, body := range []string{rows1 + "00", rows1 + "01" + version, copy1 + "02" + version + version, part + "00 00", part + "01" + insert + "00", part + "00 01" + erase, part + "02" + insert + insert + "02" + erase + erase} {
		wantTaken(t, body)
	}
	for _, count := range []string{"02", "fc", "fd 00 01", "fd 01 00", "fe 00 00 00 01", "fe 01 00 00 00", "fe 01 00 00 01", "fe ff ff ff ff", "ff 00 00 00 00 00 00 00 01", "ff 80 00 00 00 00 00 00 00", "ff ff ff ff ff ff ff ff ff"} {
		for _, body := range []string{rows1 + count + version, copy1 + count + version, part + count + insert + "00", part + "00" + count + erase, part + "01" + insert + count + erase} {
			wantNone(t, "a list of "+count, framed(unhex(t, body)))
		}
	}
	wantNone(t, "a list without its count", framed(unhex(t, rows1)))
	wantNone(t, "a part without erases", framed(unhex(t, part+"00")))
	wantNone(t, "a list with a thing too many", framed(unhex(t, rows1+"00"+version)))
}

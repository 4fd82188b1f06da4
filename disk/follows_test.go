package disk_test

import (
	"math/rand/v2"
	"strings"
	"testing"

	"hayloft/api"
	"hayloft/disk"
)

func TestWhatWasSyncedIsFound(t *testing.T) {
	r := rand.New(rand.NewPCG(4, 2))
	for range 500 {
		d := disk.New(60)
		synced := map[string]string{}
		d.Arm(r.IntN(40))
		for range 40 {
			c := aCall(r)
			if onDisk(d, c) == api.OK {
				b, _ := d.Read(c.name)
				switch {
				case c.op == 3 || c.op == 4:
					synced[c.name] = string(b)
				case c.op >= 5:
					delete(synced, c.name)
					delete(synced, c.to)
				}
			}
			wantFoundOf(t, d, d.Crash([]int{r.IntN(6), r.IntN(6), r.IntN(6)}), synced)
		}
	}
}

// wantFoundOf says that behind a crash all is found that was synced, and that what is found is the beginning of what was read.
func wantFoundOf(t *testing.T, d, x *disk.Disk, synced map[string]string) {
	t.Helper()
	for name, s := range synced {
		if b, ok := x.Read(name); !ok || !strings.HasPrefix(string(b), s) {
			t.Fatalf("P4.7: %q: found %q, %v, synced %q", name, b, ok, s)
		}
	}
	for _, name := range x.Names() {
		found, _ := x.Read(name)
		told, ok := d.Read(name)
		if !ok || !strings.HasPrefix(string(told), string(found)) {
			t.Fatalf("P4.7: %q: found %q, told %q, %v", name, found, told, ok)
		}
	}
}

func TestArmedDoesTheSame(t *testing.T) {
	r := rand.New(rand.NewPCG(4, 3))
	for at := range 60 {
		armed, other := disk.New(50), disk.New(50)
		armed.Arm(at)
		for range 200 {
			c := aCall(r)
			was := looked(armed)
			a, b := onDisk(armed, c), onDisk(other, c)
			if a != api.ErrDiskDead {
				if a != b || !same(looked(armed), looked(other)) {
					t.Fatalf("P4.8: %+v: armed %d, not armed %d", c, a, b)
				}
				continue
			}
			if other.Steps() != at+1 || armed.Steps() != at+1 || b != api.OK {
				t.Fatalf("P4.8: armed to %d dies at step %d, %d", at, armed.Steps(), other.Steps())
			}
			if c.op >= 3 {
				was.Steps, was.Dead = at+1, true
				wantSame(t, "P4.8: dies at it", armed, was)
			}
			break
		}
		if !armed.Dead() {
			t.Fatal("P4.4: not dead, armed to", at)
		}
	}
}

func TestFullDiskLosesNothing(t *testing.T) {
	r := rand.New(rand.NewPCG(4, 4))
	d := disk.New(50)
	whole := map[string]string{}
	refused := 0
	for range 100 {
		c := aCall(r)
		switch d.Append(c.to, []byte(c.b)) {
		case api.OK:
			whole[c.to] += c.b
		case api.ErrDiskFull:
			refused++
		}
		for name, b := range whole {
			wantFile(t, "P4.8: an Append is whole, or refused", d, name, b)
		}
		if len(d.Names()) != len(whole) {
			t.Fatal("P4.8: Names:", d.Names())
		}
	}
	if refused == 0 {
		t.Error("the disk was never full")
	}
}

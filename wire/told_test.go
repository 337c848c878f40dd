package wire_test

import (
	"bytes"
	"fmt"
	"strings"
	"testing"

	"pigeonry/api"
	"pigeonry/wire"
)

// dice tells numbers that are the same each time.
type dice uint32

func (d *dice) roll(n int) int {
	*d = *d*1664525 + 1013904223
	return int(*d>>8) % n
}

func (d *dice) bytes(n int) []byte {
	b := make([]byte, n)
	for i := range b {
		b[i] = byte(d.roll(256))
	}
	return b
}

// item is something that is written or read: a number, if size is above 0, a text, if it is below 0, else a truth.
type item struct {
	size int
	n    uint64
	s    string
	is   bool
}

func (d *dice) item() item {
	switch size := d.roll(10) - 1; size {
	case -1:
		return item{size: size, s: string(d.bytes(d.roll(2 + d.roll(600))))}
	case 0:
		return item{is: d.roll(2) == 1}
	default:
		var n uint64
		for _, c := range d.bytes(d.roll(size + 1)) {
			n = n*256 + uint64(c)
		}
		return item{size: size, n: n}
	}
}

func (i item) write(w *wire.Writer) api.Errno {
	switch {
	case i.size > 0:
		return w.Number(i.n, i.size)
	case i.size < 0:
		return w.Text(i.s)
	}
	return w.Truth(i.is)
}

// told tells its bytes as the chapter tells them, by the digits to the base 16.
func (i item) told() string {
	switch {
	case i.size > 0:
		return fmt.Sprintf("%0*x", 2*i.size, i.n)
	case i.size < 0:
		return fmt.Sprintf("%04x%x", len(i.s), i.s)
	case i.is:
		return "01"
	}
	return "00"
}

// read reads something of the same kind, and just as many bytes.
func (i item) read(r *wire.Reader) (item, api.Errno) {
	got := item{size: i.size}
	var err api.Errno
	switch {
	case i.size > 0:
		got.n, err = r.Number(i.size)
	case i.size < 0:
		got.s, err = r.Text()
	default:
		got.is, err = r.Truth()
	}
	return got, err
}

// P3.3: what was written is read, in that order; its bytes are as told.
func TestWrittenIsRead(t *testing.T) {
	for seed := range 300 {
		d := dice(seed)
		w := wire.NewWriter()
		var items []item
		var told strings.Builder
		for range 60 {
			i := d.item()
			wantErr(t, "write", i.write(w), api.OK)
			items = append(items, i)
			told.WriteString(i.told())
		}
		b := w.Bytes()
		if fmt.Sprintf("%x", b) != told.String() || w.Len() != len(b) {
			t.Fatalf("seed %d: Bytes %x, Len %d; want %s", seed, b, w.Len(), told.String())
		}
		r := wire.NewReader(b)
		for at, want := range items {
			if got, err := want.read(r); got != want || err != api.OK {
				t.Fatalf("seed %d: item %d: %v %v, want %v", seed, at, got, err, want)
			}
		}
		wantLeft(t, r, nil)
	}
}

// P3.3: what is read, written again, has the same bytes; what can't be read leaves the reader where it is.
func TestReadIsWrittenAgain(t *testing.T) {
	for seed := range 300 {
		d := dice(seed)
		b := d.bytes(d.roll(400))
		for i := range b { // so that there are truths, and texts that are short
			b[i] *= byte(d.roll(3) / 2)
			b[i] = b[i] >> d.roll(8)
		}
		r, w := wire.NewReader(b), wire.NewWriter()
		for range 100 {
			before := r.Rest()
			got, err := item{size: d.roll(10) - 1}.read(r)
			if err != api.OK {
				wantErr(t, "read", err, api.ErrWire)
				wantLeft(t, r, before)
				continue
			}
			wantErr(t, "write", got.write(w), api.OK)
		}
		wantBytes(t, w, b[:len(b)-r.Left()])
		wantLeft(t, r, b[w.Len():])
		if t.Failed() {
			t.Fatalf("seed %d", seed)
		}
	}
}

// P3.3 at the bound: all that a writer takes is read, and written again.
func TestFullWriterIsRead(t *testing.T) {
	w := wire.NewWriter()
	d := dice(1)
	for {
		err := d.item().write(w)
		if err != api.OK {
			wantErr(t, "write", err, api.ErrLong)
			break
		}
	}
	for w.Truth(true) == api.OK {
	}
	b := w.Bytes()
	if len(b) != api.MaxText {
		t.Fatalf("a full writer has %d bytes", len(b))
	}
	r, again := wire.NewReader(b), wire.NewWriter()
	for d = 1; ; {
		want := d.item()
		got, err := want.read(r)
		if got != want || err != api.OK {
			break
		}
		wantErr(t, "write", got.write(again), api.OK)
	}
	if !bytes.HasPrefix(b, again.Bytes()) || again.Len() < api.MaxText-602 {
		t.Errorf("%d bytes were written again", again.Len())
	}
}

// P3.3: whatever is asked, in whatever order, the reader tells what stands at its place and goes on just behind it.
func TestReaderAsTold(t *testing.T) {
	for seed := range 200 {
		d := dice(seed)
		b := d.bytes(d.roll(40))
		at := 0
		r := wire.NewReader(b)
		for range 30 {
			size := d.roll(14) - 2
			n, err := r.Number(size)
			switch {
			case size < 1 || size > 8:
				wantErr(t, "Number of no size", err, api.ErrArg)
			case at+size > len(b):
				wantErr(t, "Number of too few bytes", err, api.ErrWire)
			default:
				wantErr(t, "Number", err, api.OK)
				if digits := fmt.Sprintf("%0*x", 2*size, n); digits != fmt.Sprintf("%x", b[at:at+size]) {
					t.Errorf("Number(%d) of %x: %s", size, b[at:], digits)
				}
				at += size
			}
			if err != api.OK && n != 0 {
				t.Errorf("Number(%d): %x beside %v", size, n, err)
			}
			wantLeft(t, r, b[at:])
		}
	}
}

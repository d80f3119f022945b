package frame_test

import (
	"bytes"
	"slices"
	"testing"

	"rescind/api"
	"rescind/frame"
)

// numbered are so many bytes, of which none is as its neighbour.
func numbered(count, from int) []byte {
	b := make([]byte, count)
	for i := range b {
		b[i] = byte(from + i*7 + i>>8)
	}
	return b
}

// framed is a frame of any length, too long or not.
func framed(body []byte) []byte {
	return append([]byte{byte(len(body) / 256), byte(len(body) % 256)}, body...)
}

// sameFrames tells whether two lists of frames are alike.
func sameFrames(a, b []frame.Frame) bool {
	return slices.EqualFunc(a, b, func(x, y frame.Frame) bool { return bytes.Equal(x.Body, y.Body) && x.Err == y.Err })
}

// expectFrames fails unless frames and what is held are as they must be.
func expectFrames(t *testing.T, c *frame.Cutter, l []frame.Frame, held int, want ...frame.Frame) {
	t.Helper()
	if !sameFrames(l, want) {
		t.Fatal("frames", len(l), l, "and not", len(want), want)
	}
	if c.Held() != held {
		t.Fatal("held", c.Held(), "and not", held)
	}
}

// ok is a frame with a body.
func ok(body ...byte) frame.Frame { return frame.Frame{Body: body} }

// long is a frame that is too long.
func long() frame.Frame { return frame.Frame{Err: api.ErrLong} }

// P4.1
func TestWrap(t *testing.T) {
	if b, e := frame.Wrap([]byte{7, 8}); e != api.OK || !bytes.Equal(b, []byte{0, 2, 7, 8}) {
		t.Fatal(b, e)
	}
	if b, e := frame.Wrap(nil); e != api.OK || !bytes.Equal(b, []byte{0, 0}) {
		t.Fatal(b, e)
	}
	for _, count := range []int{0, 1, 2, 255, 256, 257, 511, 512, 4095, 4096} {
		body := numbered(count, 3)
		b, e := frame.Wrap(body)
		if e != api.OK || !bytes.Equal(b, framed(body)) {
			t.Fatal(count, len(b), e)
		}
	}
	for _, count := range []int{4097, 4098, 65535, 65536, 65538, 1 << 20} {
		if b, e := frame.Wrap(numbered(count, 3)); e != api.ErrLong || b != nil {
			t.Fatal(count, len(b), e)
		}
	}
}

// P4.1: the body stays as it is, and is not shared.
func TestWrapIsNew(t *testing.T) {
	whole := []byte{1, 2, 3, 4, 5, 6}
	b, _ := frame.Wrap(whole[:2])
	other, _ := frame.Wrap(whole[:2])
	clear(b[:cap(b)])
	if !bytes.Equal(whole, []byte{1, 2, 3, 4, 5, 6}) || !bytes.Equal(other, []byte{0, 2, 1, 2}) {
		t.Fatal(whole, other)
	}
	clear(whole)
	if !bytes.Equal(other, []byte{0, 2, 1, 2}) {
		t.Fatal(other)
	}
}

// P4.2
func TestFeed(t *testing.T) {
	c := frame.New()
	expectFrames(t, c, nil, 0)
	expectFrames(t, c, c.Feed(nil), 0)
	expectFrames(t, c, c.Feed([]byte{0}), 1)
	expectFrames(t, c, c.Feed([]byte{}), 1)
	expectFrames(t, c, c.Feed([]byte{2, 7}), 3)
	expectFrames(t, c, c.Feed(nil), 3)
	expectFrames(t, c, c.Feed([]byte{8}), 0, ok(7, 8))
	expectFrames(t, c, c.Feed([]byte{0, 0}), 0, ok())
	expectFrames(t, c, c.Feed([]byte{0, 0, 0}), 1, ok())
	expectFrames(t, c, c.Feed([]byte{0, 0, 0, 0, 0, 0}), 1, ok(), ok(), ok())
	expectFrames(t, c, c.Feed([]byte{1}), 2)
	expectFrames(t, c, c.Feed([]byte{0, 0, 3, 1, 2}), 4, ok(0))
	expectFrames(t, c, c.Feed([]byte{3, 0, 1, 9, 0, 0, 1}), 1, ok(1, 2, 3), ok(9), ok())
	expectFrames(t, c, c.Feed([]byte{0}), 2) // 256 bytes, and not one
	expectFrames(t, c, c.Feed(numbered(255, 5)), 257)
	expectFrames(t, c, c.Feed([]byte{11, 0}), 1, ok(append(numbered(255, 5), 11)...))
}

// P4.2: the lengths about the greatest one, whose last byte completes the frame.
func TestFeedOfLong(t *testing.T) {
	for _, count := range []int{1, 255, 256, 4095, 4096, 4097, 4098, 5000, 8192, 32768, 65280, 65534, 65535} {
		body := numbered(count, 1)
		want := frame.Frame{Body: body}
		if count > api.MaxFrame {
			want = long()
		}
		c := frame.New()
		b := framed(body)
		expectFrames(t, c, c.Feed(b), 0, want)
		expectFrames(t, c, c.Feed(b[:len(b)-1]), len(b)-1)
		expectFrames(t, c, c.Feed([]byte{b[len(b)-1], 0, 1, 6, 0, 2, 7}), 3, want, ok(6))
		expectFrames(t, c, c.Feed([]byte{8, 0, 0}), 0, ok(7, 8), ok())
	}
}

// P4.2: of a frame that is too long there is no body, not even a part or an empty one that others could write to.
func TestLongHasNoBody(t *testing.T) {
	c := frame.New()
	l := c.Feed(append(framed(numbered(4097, 1)), framed(numbered(4096, 2))...))
	expectFrames(t, c, l, 0, long(), ok(numbered(4096, 2)...))
	if l[0].Body != nil {
		t.Fatal(len(l[0].Body))
	}
}

// P4.2: no body shares its bytes with what was fed, with another one, or with what is held.
func TestBodiesAreNew(t *testing.T) {
	c := frame.New()
	piece := []byte{0, 3, 1, 2, 3, 0, 2, 4, 5, 0, 4, 6, 7}
	want := slices.Clone(piece)
	l := c.Feed(piece[:len(piece)-1])
	if !bytes.Equal(piece, want) {
		t.Fatal(piece)
	}
	clear(piece)
	expectFrames(t, c, l, 3, ok(1, 2, 3), ok(4, 5))
	for i := range l[0].Body[:cap(l[0].Body)] {
		l[0].Body[:cap(l[0].Body)][i] = 99
	}
	if !bytes.Equal(l[1].Body, []byte{4, 5}) {
		t.Fatal(l[1].Body)
	}
	more := c.Feed([]byte{7, 8, 9})
	expectFrames(t, c, more, 0, ok(6, 7, 8, 9))
	if !bytes.Equal(l[1].Body, []byte{4, 5}) {
		t.Fatal(l[1].Body)
	}
	clear(more[0].Body[:cap(more[0].Body)])
	expectFrames(t, c, c.Feed([]byte{0, 1, 5}), 0, ok(5))
}

// P4.2: cutters do not hang on one another.
func TestCuttersApart(t *testing.T) {
	a, b := frame.New(), frame.New()
	expectFrames(t, a, a.Feed([]byte{0, 2, 1}), 3)
	expectFrames(t, b, b.Feed([]byte{0, 1}), 2)
	expectFrames(t, a, a.Feed([]byte{3}), 0, ok(1, 3))
	expectFrames(t, b, b.Feed([]byte{4}), 0, ok(4))
}

// P4.2
func TestNilCutter(t *testing.T) {
	var c *frame.Cutter
	for _, b := range [][]byte{nil, {0, 0}, {0, 1, 5, 0}, framed(numbered(5000, 1))} {
		if l := c.Feed(b); len(l) != 0 || c.Held() != 0 {
			t.Fatal(l, c.Held())
		}
	}
}

// mixed are frames of many lengths, one behind the other, and what they are.
func mixed() ([]byte, []frame.Frame) {
	var b []byte
	var l []frame.Frame
	for i, count := range []int{3, 0, 1, 300, 4097, 0, 0, 2, 4096, 9000, 65535, 1, 255, 256, 4098, 5} {
		body := numbered(count, i)
		b = append(b, framed(body)...)
		if count > api.MaxFrame {
			l = append(l, long())
		} else {
			l = append(l, ok(body...))
		}
	}
	return b, l
}

// P4.3: pieces of one size, of each size up to the whole in few steps.
func TestPiecesOfAnySize(t *testing.T) {
	b, want := mixed()
	for size := 1; size < 2*len(b); size += 1 + size/3 {
		c := frame.New()
		var l []frame.Frame
		for piece := range slices.Chunk(b, size) {
			l = append(l, c.Feed(piece)...)
		}
		expectFrames(t, c, l, 0, want...)
	}
}

// P4.3: a short text of frames in all ways that it can be divided, with what is held after each piece.
func TestAllDivisions(t *testing.T) {
	b := []byte{0, 0, 0, 1, 0, 0, 3, 5, 0, 1, 0, 4, 1}
	ends := []int{0, 2, 5, 10} // where a frame has ended
	for mask := range 1 << (len(b) - 1) {
		c := frame.New()
		var l []frame.Frame
		for from, at := 0, 1; at <= len(b); at++ {
			if at < len(b) && mask>>(at-1)&1 == 0 {
				continue
			}
			l = append(l, c.Feed(b[from:at])...)
			from = at
			last := 0
			for _, end := range ends {
				if end <= at {
					last = end
				}
			}
			if c.Held() != at-last {
				t.Fatal(mask, at, c.Held())
			}
		}
		expectFrames(t, c, l, 3, ok(), ok(0), ok(5, 0, 1))
	}
}

// P4.3: where the head of a frame that is too long, or its end, is divided.
func TestDivisionsOfLong(t *testing.T) {
	b := slices.Concat(framed([]byte{1}), framed(numbered(4097, 2)), framed([]byte{2, 3}))
	for _, at := range []int{0, 1, 2, 3, 4, 5, 6, 4000, 4100, 4101, 4102, 4103, 4104, 4105, len(b)} {
		for _, next := range []int{at, min(at+1, len(b)), len(b)} {
			c := frame.New()
			l := slices.Concat(c.Feed(b[:at]), c.Feed(b[at:next]), c.Feed(b[next:]))
			expectFrames(t, c, l, 0, ok(1), long(), ok(2, 3))
		}
	}
}

// P4.4
func TestFeedInvertsWrap(t *testing.T) {
	var b []byte
	var want []frame.Frame
	one := frame.New()
	for i, count := range []int{0, 1, 2, 3, 17, 255, 256, 257, 1000, 4095, 4096, 0, 4096, 5} {
		body := numbered(count, i)
		w, e := frame.Wrap(body)
		if e != api.OK {
			t.Fatal(count, e)
		}
		expectFrames(t, one, one.Feed(w), 0, ok(body...))
		b = append(b, w...)
		want = append(want, ok(body...))
	}
	c := frame.New()
	expectFrames(t, c, c.Feed(b), 0, want...)
}

package frames_test

import (
	"bytes"
	"math"
	"slices"
	"testing"

	"byre/api"
	"byre/config"
	"byre/frames"
)

// far are numbers that are no frame's, no node's and no word's, whatever the memory.
var far = []int{math.MinInt, math.MinInt + 1, -1 << 32, -129, -2, -1, 1 << 20, 1 << 56, 1 << 61, 1<<61 + 1, math.MaxInt - 1, math.MaxInt}

// three is a config with three nodes, with 5, 4 and 9 frames.
func three() api.Config {
	c := api.Config{Nodes: 3, CPUs: 1, Slots: 2}
	c.Frames[0], c.Frames[1], c.Frames[2] = 5, 4, 9
	for a := range 3 {
		for b := range 3 {
			if a != b {
				c.Distance[a][b] = 10
			}
		}
	}
	return c
}

// full is a config in which each node that there may be has as many frames as it may have.
func full() api.Config {
	c := api.Config{Nodes: api.MaxNodes, CPUs: 1}
	for a := range api.MaxNodes {
		c.Frames[a] = api.MaxFrames
		for b := range api.MaxNodes {
			if a != b {
				c.Distance[a][b] = 1 + a + b
			}
		}
	}
	return c
}

// made is a memory of a config that may be.
func made(t *testing.T, c api.Config) *frames.Memory {
	t.Helper()
	m, e := frames.New(c)
	if m == nil || e != api.OK {
		t.Fatalf("New: %v, error %d", m, e)
	}
	return m
}

// want holds an error against the one that is to be told.
func want(t *testing.T, what string, got, want api.Errno) {
	t.Helper()
	if got != want {
		t.Errorf("%s: error %d, not %d", what, got, want)
	}
}

// pattern are a frame's bytes that are hardly another one's.
func pattern(frame int) []byte {
	b := make([]byte, api.FrameSize)
	for i := range b {
		b[i] = byte(i*i + 7*frame + frame/16 + 1)
	}
	return b
}

// filled is a memory each of whose frames has its own bytes and its own mark.
func filled(t *testing.T, c api.Config) *frames.Memory {
	t.Helper()
	m := made(t, c)
	for frame := range m.Frames() {
		want(t, "Write", m.Write(frame, 0, pattern(frame)), api.OK)
		want(t, "SetMark", m.SetMark(frame, markOf(frame)), api.OK)
	}
	return m
}

// markOf is a frame's mark that is hardly another one's.
func markOf(frame int) api.Mark {
	return api.Mark{Role: api.Role(1 + frame%5), Order: frame % 11, Owner: frame, Page: 3 * frame, Index: 100 * frame}
}

// whole are all bytes of a frame, as Read tells them.
func whole(t *testing.T, m *frames.Memory, frame int) []byte {
	t.Helper()
	b, e := m.Read(frame, 0, api.FrameSize)
	if e != api.OK || len(b) != api.FrameSize {
		t.Fatalf("Read(%d, 0, 256): %d bytes, error %d", frame, len(b), e)
	}
	return b
}

// wantBytes holds a frame against the bytes that it is to have.
func wantBytes(t *testing.T, what string, m *frames.Memory, frame int, want []byte) {
	t.Helper()
	if got := whole(t, m, frame); !bytes.Equal(got, want) {
		t.Errorf("%s: the frame %d has %v, not %v", what, frame, got, want)
	}
}

// wantFilled holds each frame of a filled memory against its bytes and its mark, but for those of the frames in changed.
func wantFilled(t *testing.T, what string, m *frames.Memory, changed ...int) {
	t.Helper()
	for frame := range m.Frames() {
		if !slices.Contains(changed, frame) {
			wantBytes(t, what, m, frame, pattern(frame))
			wantMark(t, what, m, frame, markOf(frame))
		}
	}
}

// wantMark holds a frame against the mark that it is to have.
func wantMark(t *testing.T, what string, m *frames.Memory, frame int, want api.Mark) {
	t.Helper()
	if got, e := m.Mark(frame); e != api.OK || got != want {
		t.Errorf("%s: the frame %d has the mark %v, error %d; not %v", what, frame, got, e, want)
	}
}

// wantNoBytes holds what Read answers against the error that it is to tell.
func wantNoBytes(t *testing.T, m *frames.Memory, frame, at, n int, want api.Errno) {
	t.Helper()
	if b, e := m.Read(frame, at, n); len(b) != 0 || e != want {
		t.Errorf("Read(%d, %d, %d): %v, error %d; not error %d", frame, at, n, b, e, want)
	}
}

// wantWord holds what Word answers against what it is to answer.
func wantWord(t *testing.T, m *frames.Memory, frame, i int, w uint64, want api.Errno) {
	t.Helper()
	if got, e := m.Word(frame, i); got != w || e != want {
		t.Errorf("Word(%d, %d): %x, error %d; not %x, error %d", frame, i, got, e, w, want)
	}
}

// wrongFrames are numbers that are none of the memory's frames.
func wrongFrames(m *frames.Memory) []int {
	return append([]int{m.Frames(), m.Frames() + 1, m.Frames() + 8}, far...)
}

// wantRefused holds all calls with a frame that there is not against the error that they are to tell.
// Of several things that are wrong the one that is to be told is named first: so the others are wrong, too.
func wantRefused(t *testing.T, m *frames.Memory, frame int, err api.Errno) {
	t.Helper()
	for _, x := range []struct{ at, n int }{{0, 0}, {0, 1}, {0, 256}, {256, 0}, {0, 257}, {-1, 1}, {1, -1}, {math.MaxInt, math.MaxInt}} {
		wantNoBytes(t, m, frame, x.at, x.n, err)
		want(t, "Write", m.Write(frame, x.at, make([]byte, min(max(x.n, 0), 300))), err)
	}
	want(t, "Clear", m.Clear(frame), err)
	want(t, "Move to itself", m.Move(frame, frame), err)
	for _, i := range []int{0, 31, 32, -1, math.MinInt, math.MaxInt} {
		wantWord(t, m, frame, i, 0, err)
		want(t, "SetWord", m.SetWord(frame, i, 5), err)
	}
	if x, e := m.Mark(frame); x != (api.Mark{}) || e != err {
		t.Errorf("Mark(%d): %v, error %d; not error %d", frame, x, e, err)
	}
	want(t, "SetMark", m.SetMark(frame, api.Mark{Role: api.RolePage}), err)
	want(t, "SetMark of one that may not be", m.SetMark(frame, api.Mark{}), err)
	if b := m.Bytes(frame); len(b) != 0 {
		t.Errorf("Bytes(%d): %v", frame, b)
	}
}

func TestP3_1New(t *testing.T) {
	for _, x := range []struct {
		c    api.Config
		many int
	}{
		{config.Least(4), 4}, {config.Least(128), 128}, {three(), 18}, {full(), api.MaxNodes * api.MaxFrames},
	} {
		m := made(t, x.c)
		if m.Frames() != x.many {
			t.Errorf("Frames: %d, not %d", m.Frames(), x.many)
		}
		for frame := range m.Frames() {
			wantBytes(t, "a new memory", m, frame, make([]byte, api.FrameSize))
			wantMark(t, "a new memory", m, frame, api.Mark{Role: api.RoleFree})
		}
	}
}

func TestP3_1MayNotBe(t *testing.T) {
	for _, do := range []func(c *api.Config){
		func(c *api.Config) { *c = api.Config{} },
		func(c *api.Config) { c.Nodes = 0 },
		func(c *api.Config) { c.Nodes = -1 },
		func(c *api.Config) { c.Nodes = 2 }, // something stands behind
		func(c *api.Config) { c.Nodes = math.MaxInt },
		func(c *api.Config) { c.CPUs = 0 },
		func(c *api.Config) { c.CPUs = api.MaxCPUs + 1 },
		func(c *api.Config) { c.Home[0] = 3 },
		func(c *api.Config) { c.Frames[1] = 3 },
		func(c *api.Config) { c.Frames[2] = 129 },
		func(c *api.Config) { c.Frames[0] = math.MaxInt },
		func(c *api.Config) { c.Frames[3] = 4 },
		func(c *api.Config) { c.Distance[0][1] = 11 },
		func(c *api.Config) { c.Slots = -1 },
		func(c *api.Config) { c.Min = 1 },
	} {
		c := three()
		do(&c)
		if m, e := frames.New(c); m != nil || e != api.ErrArg {
			t.Errorf("New(%v): %v, error %d", c, m, e)
		}
	}
}

func TestP3_1TwoMemories(t *testing.T) {
	a, b := filled(t, three()), made(t, three())
	wantBytes(t, "another memory", b, 3, make([]byte, api.FrameSize))
	want(t, "Clear", b.Clear(4), api.OK)
	wantFilled(t, "Clear in another memory", a)
}

func TestP3_2Examples(t *testing.T) {
	m := made(t, config.Least(4))
	want(t, "Write(0, 254, 1 2 3)", m.Write(0, 254, []byte{1, 2, 3}), api.ErrArg)
	wantBytes(t, "what was refused", m, 0, make([]byte, api.FrameSize))
	want(t, "Write(0, 254, 1 2)", m.Write(0, 254, []byte{1, 2}), api.OK)
	if b, e := m.Read(0, 253, 3); e != api.OK || !bytes.Equal(b, []byte{0, 1, 2}) {
		t.Errorf("Read(0, 253, 3): %v, error %d", b, e)
	}
}

// edges are the first and the last frame of all and of nodes of three.
var edges = []int{0, 4, 5, 8, 9, 17}

func TestP3_2ReadWrite(t *testing.T) {
	for _, frame := range edges {
		for _, x := range []struct{ at, n int }{
			{0, 0}, {0, 1}, {0, 255}, {0, 256}, {1, 255}, {7, 9}, {128, 128}, {254, 2}, {255, 1}, {255, 0}, {256, 0},
		} {
			m := filled(t, three())
			if b, e := m.Read(frame, x.at, x.n); e != api.OK || !bytes.Equal(b, pattern(frame)[x.at:x.at+x.n]) {
				t.Errorf("Read(%d, %d, %d): %v, error %d", frame, x.at, x.n, b, e)
			}
			b := bytes.Repeat([]byte{251}, x.n)
			want(t, "Write", m.Write(frame, x.at, b), api.OK)
			wantBytes(t, "Write", m, frame, slices.Concat(pattern(frame)[:x.at], b, pattern(frame)[x.at+x.n:]))
			wantMark(t, "Write", m, frame, markOf(frame))
			wantFilled(t, "Write to another frame", m, frame)
		}
	}
}

func TestP3_2WriteNothing(t *testing.T) {
	m := filled(t, config.Least(4))
	for _, at := range []int{0, 1, 255, 256} {
		want(t, "Write of nil", m.Write(3, at, nil), api.OK)
		want(t, "Write of no byte", m.Write(3, at, []byte{}), api.OK)
		if b, e := m.Read(3, at, 0); e != api.OK || len(b) != 0 {
			t.Errorf("Read(3, %d, 0): %v, error %d", at, b, e)
		}
	}
	want(t, "Write of no byte at 257", m.Write(3, 257, nil), api.ErrArg)
	want(t, "Write of no byte at -1", m.Write(3, -1, nil), api.ErrArg)
	wantFilled(t, "Write of no byte", m)
}

func TestP3_2WrongPlaces(t *testing.T) {
	m := filled(t, three())
	for _, frame := range edges {
		for _, x := range []struct{ at, n int }{
			{-1, 0}, {-1, 1}, {-1, 2}, {-256, 256}, {0, 257}, {1, 256}, {255, 2}, {256, 1}, {257, 0}, {257, 256}, {512, 0},
			{math.MinInt, 1}, {math.MinInt, 0}, {math.MaxInt, 0}, {math.MaxInt, 1}, {math.MaxInt - 255, 256}, {math.MaxInt, 257},
		} {
			wantNoBytes(t, m, frame, x.at, x.n, api.ErrArg)
			want(t, "Write", m.Write(frame, x.at, make([]byte, x.n)), api.ErrArg)
		}
		for _, x := range []struct{ at, n int }{
			{0, -1}, {1, -1}, {256, -1}, {257, -1}, {300, -100}, {0, math.MinInt}, {math.MaxInt, math.MinInt}, {math.MinInt, math.MinInt},
			{math.MaxInt, -math.MaxInt}, {0, math.MaxInt}, {1, math.MaxInt}, {256, math.MaxInt}, {math.MaxInt, math.MaxInt}, {math.MinInt, math.MaxInt},
		} {
			wantNoBytes(t, m, frame, x.at, x.n, api.ErrArg)
		}
	}
	wantFilled(t, "what was refused", m)
}

func TestP3_2Clear(t *testing.T) {
	for _, frame := range edges {
		m := filled(t, three())
		want(t, "Clear", m.Clear(frame), api.OK)
		wantBytes(t, "Clear", m, frame, make([]byte, api.FrameSize))
		wantMark(t, "Clear", m, frame, markOf(frame))
		wantFilled(t, "Clear of another frame", m, frame)
	}
}

func TestP3_2Move(t *testing.T) {
	for _, from := range edges {
		for _, to := range edges {
			m := filled(t, three())
			want(t, "Move", m.Move(from, to), api.OK)
			wantBytes(t, "Move", m, from, pattern(from))
			wantBytes(t, "Move", m, to, pattern(from))
			wantMark(t, "Move", m, from, markOf(from))
			wantMark(t, "Move", m, to, markOf(to))
			wantFilled(t, "Move elsewhere", m, to)
		}
	}
}

// Both frames go their own ways behind a move.
func TestP3_2MoveCopies(t *testing.T) {
	m := filled(t, three())
	want(t, "Move", m.Move(1, 9), api.OK)
	want(t, "Write", m.Write(1, 0, []byte{250}), api.OK)
	want(t, "Clear", m.Clear(1), api.OK)
	wantBytes(t, "Clear of the one moved from", m, 9, pattern(1))
	want(t, "Clear", m.Clear(9), api.OK)
	wantFilled(t, "Clear of the one moved to", m, 1, 9)
}

func TestP3_2MoveOfNone(t *testing.T) {
	m := filled(t, three())
	for _, frame := range wrongFrames(m) {
		for _, there := range []int{0, 17} {
			want(t, "Move of none", m.Move(frame, there), api.ErrNone)
			want(t, "Move to none", m.Move(there, frame), api.ErrNone)
		}
		want(t, "Move of none to none", m.Move(frame, -5), api.ErrNone)
	}
	wantFilled(t, "what was refused", m)
}

func TestP3_2ReadIsACopy(t *testing.T) {
	m := filled(t, config.Least(4))
	b := whole(t, m, 2)
	clear(b)
	clear(append(b, 1, 2, 3))
	wantFilled(t, "what Read answered was written over", m)
	b = whole(t, m, 2)
	want(t, "Clear", m.Clear(2), api.OK)
	if !bytes.Equal(b, pattern(2)) {
		t.Error("what Read answered changes with the frame")
	}
}

func TestP3_2WriteKeepsNothing(t *testing.T) {
	m := filled(t, config.Least(4))
	b := []byte{1, 2, 3}
	want(t, "Write", m.Write(1, 100, b), api.OK)
	if !slices.Equal(b, []byte{1, 2, 3}) {
		t.Errorf("Write changes what is handed in: %v", b)
	}
	clear(b)
	if b, e := m.Read(1, 100, 3); e != api.OK || !slices.Equal(b, []byte{1, 2, 3}) {
		t.Errorf("what was handed in was written over: %v, error %d", b, e)
	}
	want(t, "Clear", m.Clear(1), api.OK)
	if !slices.Equal(b, []byte{0, 0, 0}) {
		t.Errorf("Clear reached what was handed in: %v", b)
	}
}

// The frame's own bytes may be what is written to it.
func TestP3_2WriteOfItsOwnBytes(t *testing.T) {
	m := filled(t, config.Least(4))
	want(t, "Write", m.Write(1, 1, m.Bytes(1)[:255]), api.OK)
	wantBytes(t, "Write", m, 1, append(pattern(1)[:1:1], pattern(1)[:255]...))
	wantFilled(t, "Write of its own bytes", m, 1)
}

func TestP3_3Example(t *testing.T) {
	m := made(t, config.Least(4))
	want(t, "SetWord(0, 0, 258)", m.SetWord(0, 0, 258), api.OK)
	if b, e := m.Read(0, 0, 3); e != api.OK || !slices.Equal(b, []byte{2, 1, 0}) {
		t.Errorf("Read(0, 0, 3): %v, error %d", b, e)
	}
	wantWord(t, m, 0, 0, 258, api.OK)
}

func TestP3_3Words(t *testing.T) {
	for _, frame := range edges {
		for _, i := range []int{0, 1, 15, 30, 31} {
			m := filled(t, three())
			want(t, "Write", m.Write(frame, 8*i, []byte{0x01, 0x23, 0x45, 0x67, 0x89, 0xAB, 0xCD, 0xEF}), api.OK)
			wantWord(t, m, frame, i, 0xEFCDAB8967452301, api.OK)
			want(t, "SetWord", m.SetWord(frame, i, 0xFEDCBA9876543210), api.OK)
			wantBytes(t, "SetWord", m, frame, slices.Concat(pattern(frame)[:8*i],
				[]byte{0x10, 0x32, 0x54, 0x76, 0x98, 0xBA, 0xDC, 0xFE}, pattern(frame)[8*i+8:]))
			wantWord(t, m, frame, i, 0xFEDCBA9876543210, api.OK)
			wantMark(t, "SetWord", m, frame, markOf(frame))
			wantFilled(t, "SetWord in another frame", m, frame)
		}
	}
}

func TestP3_3AllWords(t *testing.T) {
	m := made(t, config.Least(4))
	for i := range 32 {
		want(t, "SetWord", m.SetWord(3, i, 1<<(2*i)|1<<63), api.OK)
	}
	for i := range 32 {
		wantWord(t, m, 3, i, 1<<(2*i)|1<<63, api.OK)
	}
	for _, w := range []uint64{0, 1, 0xFF, 0x100, 1 << 32, math.MaxInt64, 1 << 63, math.MaxUint64} {
		want(t, "SetWord", m.SetWord(3, 31, w), api.OK)
		wantWord(t, m, 3, 31, w, api.OK)
	}
}

func TestP3_3NoSuchWord(t *testing.T) {
	m := filled(t, three())
	for _, frame := range edges {
		for _, i := range append([]int{32, 33, 255, 256}, far...) {
			wantWord(t, m, frame, i, 0, api.ErrArg)
			want(t, "SetWord", m.SetWord(frame, i, 77), api.ErrArg)
		}
	}
	wantFilled(t, "what was refused", m)
}

// marksThatMay are marks at the edges of what may be.
func marksThatMay() []api.Mark {
	all := []api.Mark{
		{Role: api.RoleSlab, Order: 10, Owner: 65535, Page: 65535, Index: math.MaxInt},
		{Role: api.RoleFree, Order: 10}, {Role: api.RoleFree, Owner: 65535},
		{Role: api.RoleFree, Page: 65535}, {Role: api.RoleFree, Index: math.MaxInt},
		{Role: api.RolePage, Owner: 65534, Page: 1, Index: 65536}, {Role: api.RoleTable, Order: 1, Owner: 2, Page: 3, Index: 4},
	}
	for role := api.Role(1); role <= 5; role++ {
		all = append(all, api.Mark{Role: role})
	}
	return all
}

// marksThatMayNot are marks each of which has one thing that may not be.
func marksThatMayNot() []api.Mark {
	all := []api.Mark{{}, {Role: 0, Order: 1, Owner: 1, Page: 1, Index: 1}, {Role: 6}, {Role: 7}, {Role: 128}, {Role: 255}}
	for _, n := range []int{math.MinInt, -1} {
		all = append(all, api.Mark{Role: 3, Order: n}, api.Mark{Role: 3, Owner: n}, api.Mark{Role: 3, Page: n}, api.Mark{Role: 3, Index: n})
	}
	for _, n := range []int{11, 12, math.MaxInt} {
		all = append(all, api.Mark{Role: 4, Order: n})
	}
	for _, n := range []int{65536, 65537, 1 << 32, math.MaxInt} {
		all = append(all, api.Mark{Role: 4, Owner: n}, api.Mark{Role: 4, Page: n})
	}
	return all
}

func TestP3_4SetMark(t *testing.T) {
	for _, frame := range edges {
		m := filled(t, three())
		for _, x := range marksThatMay() {
			want(t, "SetMark", m.SetMark(frame, x), api.OK)
			wantMark(t, "SetMark", m, frame, x)
		}
		for _, x := range marksThatMayNot() {
			if e := m.SetMark(frame, x); e != api.ErrArg {
				t.Errorf("SetMark of %v: error %d", x, e)
			}
		}
		wantMark(t, "what was refused", m, frame, marksThatMay()[len(marksThatMay())-1])
		wantBytes(t, "SetMark", m, frame, pattern(frame))
		wantFilled(t, "SetMark of another frame", m, frame)
	}
}

// wantCounts holds how many frames of each node of three have each role against a list of both.
func wantCounts(t *testing.T, m *frames.Memory, want [3][6]int) {
	t.Helper()
	for node, roles := range want {
		for role, many := range roles {
			if got := m.Count(node, api.Role(role)); got != many {
				t.Errorf("Count(%d, %d): %d, not %d", node, role, got, many)
			}
		}
		for _, role := range []api.Role{6, 7, 255} {
			if got := m.Count(node, role); got != 0 {
				t.Errorf("Count(%d, %d): %d", node, role, got)
			}
		}
	}
}

func TestP3_4Count(t *testing.T) {
	m := made(t, three())
	wantCounts(t, m, [3][6]int{{0, 5}, {0, 4}, {0, 9}})
	for frame, role := range []api.Role{2, 2, 3, 1, 5, 4, 4, 4, 4, 5, 1, 1, 3, 3, 3, 2, 4, 5} {
		want(t, "SetMark", m.SetMark(frame, api.Mark{Role: role, Owner: 1, Page: 2}), api.OK)
	}
	wantCounts(t, m, [3][6]int{{0, 1, 2, 1, 0, 1}, {0, 0, 0, 0, 4, 0}, {0, 2, 1, 3, 1, 2}})
	want(t, "SetMark", m.SetMark(8, api.Mark{Role: api.RoleMove}), api.OK)
	want(t, "SetMark", m.SetMark(9, api.Mark{Role: api.RoleFree}), api.OK)
	wantCounts(t, m, [3][6]int{{0, 1, 2, 1, 0, 1}, {0, 0, 0, 0, 3, 1}, {0, 3, 1, 3, 1, 1}})
}

func TestP3_4CountOfNoNode(t *testing.T) {
	for _, m := range []*frames.Memory{made(t, config.Least(4)), made(t, three()), made(t, full())} {
		nodes := []int{8, 9}
		switch m.Frames() {
		case 4:
			nodes = append(nodes, 1, 2, 7)
		case 18:
			nodes = append(nodes, 3, 4, 7)
		}
		for _, node := range append(nodes, far...) {
			for role := range api.Role(7) {
				if got := m.Count(node, role); got != 0 {
					t.Errorf("%d frames: Count(%d, %d): %d", m.Frames(), node, role, got)
				}
			}
		}
	}
	if got := made(t, full()).Count(7, api.RoleFree); got != api.MaxFrames {
		t.Errorf("Count of the last node: %d", got)
	}
}

func TestP3_4Bytes(t *testing.T) {
	for _, frame := range edges {
		m := filled(t, three())
		b := m.Bytes(frame)
		if !bytes.Equal(b, pattern(frame)) {
			t.Fatalf("Bytes(%d): %v", frame, b)
		}
		b[0], b[255] = 252, 253
		changed := pattern(frame)
		changed[0], changed[255] = 252, 253
		wantBytes(t, "what is written to Bytes", m, frame, changed)
		want(t, "SetWord", m.SetWord(frame, 1, 0x0707070707070707), api.OK)
		want(t, "Write", m.Write(frame, 200, []byte{6}), api.OK)
		if b[8] != 7 || b[15] != 7 || b[200] != 6 {
			t.Error("Bytes are not the frame's own")
		}
		want(t, "Move", m.Move((frame+1)%18, frame), api.OK)
		if !bytes.Equal(b, pattern((frame+1)%18)) {
			t.Error("Bytes are not the frame's own behind Move")
		}
		want(t, "Clear", m.Clear(frame), api.OK)
		if !bytes.Equal(b, make([]byte, api.FrameSize)) {
			t.Error("Bytes are not the frame's own behind Clear")
		}
		wantMark(t, "what is written to Bytes", m, frame, markOf(frame))
		wantFilled(t, "what is written to the Bytes of another frame", m, frame)
	}
}

// What is appended to a frame's bytes is written to no frame.
func TestP3_4BytesAppended(t *testing.T) {
	m := filled(t, three())
	for frame := range m.Frames() {
		b := m.Bytes(frame)
		if cap(b) != api.FrameSize {
			t.Errorf("Bytes(%d): room for %d", frame, cap(b))
		}
		b = append(b, 249, 249, 249)
		clear(b)
	}
	wantFilled(t, "what is appended to Bytes", m)
}

func TestP3_4Copy(t *testing.T) {
	m := filled(t, three())
	c := m.Copy()
	if c == nil || c == m || c.Frames() != 18 {
		t.Fatal("Copy")
	}
	wantFilled(t, "a copy", c)
	for node := range 3 {
		for role := range api.Role(7) {
			if got := c.Count(node, role); got != m.Count(node, role) {
				t.Errorf("a copy: Count(%d, %d): %d, not %d", node, role, got, m.Count(node, role))
			}
		}
	}
	for _, frame := range edges {
		m.Bytes(frame)[3] = 255
		want(t, "Clear", m.Clear(frame), api.OK)
		want(t, "SetMark", m.SetMark(frame, api.Mark{Role: api.RoleTable, Index: 9}), api.OK)
	}
	wantFilled(t, "a copy of what has changed", c)
	wantRefused(t, c, 18, api.ErrNone)
}

// What is done to a copy is not done to what it was copied from.
func TestP3_4CopyGoesItsOwnWay(t *testing.T) {
	m := filled(t, three())
	c := m.Copy()
	for frame := range c.Frames() {
		c.Bytes(frame)[3] = 255
		want(t, "SetWord", c.SetWord(frame, 31, 5), api.OK)
		want(t, "Move", c.Move(0, frame), api.OK)
		want(t, "Clear", c.Clear(frame), api.OK)
		want(t, "Write", c.Write(frame, 0, []byte{1}), api.OK)
		want(t, "SetMark", c.SetMark(frame, api.Mark{Role: api.RoleMove}), api.OK)
	}
	wantFilled(t, "what is done to a copy", m)
	wantCounts(t, c, [3][6]int{{0, 0, 0, 0, 0, 5}, {0, 0, 0, 0, 0, 4}, {0, 0, 0, 0, 0, 9}})
}

// Roles of a node's frames add up to its frames.
func TestP3_4RolesAddUp(t *testing.T) {
	m, c := filled(t, three()), three()
	for node := range c.Nodes {
		sum := 0
		for role := api.RoleFree; role <= api.RoleMove; role++ {
			sum += m.Count(node, role)
		}
		if sum != c.Frames[node] {
			t.Errorf("the roles of the node %d add up to %d", node, sum)
		}
	}
}

func TestFramesThatThereAreNot(t *testing.T) {
	for _, c := range []api.Config{config.Least(4), three(), full()} {
		m := made(t, c)
		for _, frame := range wrongFrames(m) {
			wantRefused(t, m, frame, api.ErrNone)
		}
	}
	m := filled(t, three())
	for _, frame := range wrongFrames(m) {
		wantRefused(t, m, frame, api.ErrNone)
	}
	wantFilled(t, "what was refused", m)
}

func TestNotThere(t *testing.T) {
	var none *frames.Memory
	for _, m := range []*frames.Memory{none, {}} {
		if m.Frames() != 0 {
			t.Errorf("Frames: %d", m.Frames())
		}
		for _, i := range append([]int{0, 1, 4}, far...) {
			wantRefused(t, m, i, api.ErrNil)
			want(t, "Move", m.Move(0, i), api.ErrNil)
			want(t, "Move", m.Move(i, 0), api.ErrNil)
			for role := range api.Role(7) {
				if got := m.Count(i, role); got != 0 {
					t.Errorf("Count(%d, %d): %d", i, role, got)
				}
			}
		}
		if m.Copy() != nil {
			t.Error("Copy: not nil")
		}
	}
}

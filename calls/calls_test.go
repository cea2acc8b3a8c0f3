package calls_test

import (
	"bytes"
	"encoding/binary"
	"encoding/hex"
	"math"
	"reflect"
	"slices"
	"strings"
	"testing"

	"byre/api"
	"byre/calls"
)

// What the chapter names, in its own numbers.
const (
	spawn api.CallKind = iota + 1
	exit
	mmap
	munmap
	mprotect
	mlock
	munlock
	load
	store
	kmalloc
	kfree
	peek
	poke
	setPolicy
	mbind
	getPolicy
	where
	movePages
	kswapd
	compact
	reap
	noKind
)

const mostBytes = 8

// table is the chapter's table: the fields of each kind, in their order.
func table(kind api.CallKind) []string {
	return strings.Fields([]string{
		"",
		"",
		"Pid",
		"Pid Page Count Rights",
		"Pid Page Count",
		"Pid Page Count Rights",
		"Pid Page Count",
		"Pid Page Count",
		"Pid Addr Size",
		"Pid Addr Bytes",
		"Size",
		"Handle",
		"Handle Addr Size",
		"Handle Addr Bytes",
		"Pid Kind Mask",
		"Pid Page Count Kind Mask",
		"Pid Page",
		"Pid Page",
		"Pid Page Count Node",
		"Node",
		"Node",
		"",
	}[kind])
}

// part is a field of a call, or one of its policy's.
type part struct {
	name   string
	put    func(x *api.Call, n int) // makes it n, or what has the same eight bytes as n
	get    func(x api.Call) int
	edges  []int // numbers that it may be, but 0
	narrow bool  // it is at most 255
}

// wide are whole numbers at edges, but 0.
var wide = []int{
	1, -1, math.MinInt, math.MaxInt, 2, 3, 8, 128, 129, 255, 256, 257, 1023, 1024, 65536, 1<<31 - 1, 1 << 31, 1 << 32, 1<<32 + 1, 1 << 56,
	0x0102030405060708, 0x7766554433221100, -2, -3, -128, -255, -256, -1 << 31, -1 << 32, 1 - 1<<32, -1 << 56, math.MinInt + 1, math.MaxInt - 1,
}

// small are numbers of a byte at edges, but 0.
var small = []int{1, 255, 2, 3, 4, 5, 127, 128, 254}

// parts are all fields of calls but Kind, and Bytes as how many they are.
func parts() []part {
	return []part{
		{"Pid", func(x *api.Call, n int) { x.Pid = n }, func(x api.Call) int { return x.Pid }, wide, false},
		{"Page", func(x *api.Call, n int) { x.Page = n }, func(x api.Call) int { return x.Page }, wide, false},
		{"Count", func(x *api.Call, n int) { x.Count = n }, func(x api.Call) int { return x.Count }, wide, false},
		{"Node", func(x *api.Call, n int) { x.Node = n }, func(x api.Call) int { return x.Node }, wide, false},
		{"Addr", func(x *api.Call, n int) { x.Addr = n }, func(x api.Call) int { return x.Addr }, wide, false},
		{"Size", func(x *api.Call, n int) { x.Size = n }, func(x api.Call) int { return x.Size }, wide, false},
		{"Handle", func(x *api.Call, n int) { x.Handle = uint64(n) }, func(x api.Call) int { return int(x.Handle) }, wide, false},
		{"Rights", func(x *api.Call, n int) { x.Rights = uint8(n) }, func(x api.Call) int { return int(x.Rights) }, small, true},
		{"Kind", func(x *api.Call, n int) { x.Policy.Kind = api.PolicyKind(n) }, func(x api.Call) int { return int(x.Policy.Kind) }, small, true},
		{"Mask", func(x *api.Call, n int) { x.Policy.Mask = uint8(n) }, func(x api.Call) int { return int(x.Policy.Mask) }, small, true},
		{"Bytes", func(x *api.Call, n int) { x.Bytes = some(n) }, func(x api.Call) int { return len(x.Bytes) }, []int{1, 8, 2, 3, 4, 5, 6, 7}, false},
	}
}

// partOf is the field with that name.
func partOf(name string) part {
	l := parts()
	return l[slices.IndexFunc(l, func(p part) bool { return p.name == name })]
}

// some are n bytes, of which no two are alike at first.
func some(n int) []byte {
	b := make([]byte, n)
	for i := range b {
		b[i] = byte(200 + 7*i)
	}
	return b
}

// kinds are the twenty-one kinds.
func kinds() []api.CallKind {
	var l []api.CallKind
	for kind := spawn; kind < noKind; kind++ {
		l = append(l, kind)
	}
	return l
}

// noKinds are kinds that are none.
func noKinds() []api.CallKind {
	l := []api.CallKind{0}
	for kind := int(noKind); kind < 256; kind++ {
		l = append(l, api.CallKind(kind))
	}
	return l
}

// filled is a call of the kind, all fields of which are there: turn says which ones of their edges they are.
func filled(kind api.CallKind, turn int) api.Call {
	x := api.Call{Kind: kind}
	for i, name := range table(kind) {
		p := partOf(name)
		p.put(&x, p.edges[(turn+3*i)%len(p.edges)])
	}
	return x
}

// several are calls of the kind that may be: one of noughts, and filled ones.
func several(kind api.CallKind) []api.Call {
	l := []api.Call{{Kind: kind}}
	for turn := range len(wide) {
		l = append(l, filled(kind, turn))
	}
	return l
}

// form is the call's form.
func form(x api.Call) []byte {
	b := binary.LittleEndian.AppendUint64(nil, uint64(x.Kind))
	for _, name := range table(x.Kind) {
		b = binary.LittleEndian.AppendUint64(b, uint64(partOf(name).get(x)))
	}
	return append(b, x.Bytes...)
}

// plainRead is what Read is to answer: it takes b apart, and lets nothing pass.
func plainRead(b []byte) (api.Call, bool) {
	if len(b) < 8 || binary.LittleEndian.Uint64(b) == 0 || binary.LittleEndian.Uint64(b) >= uint64(noKind) {
		return api.Call{}, false
	}
	x, rest := api.Call{Kind: api.CallKind(b[0])}, b[8:]
	for _, name := range table(x.Kind) {
		if len(rest) < 8 {
			return api.Call{}, false
		}
		n := binary.LittleEndian.Uint64(rest)
		rest = rest[8:]
		p := partOf(name)
		if p.narrow && n > 255 || name == "Bytes" && (n > mostBytes || n != uint64(len(rest))) {
			return api.Call{}, false
		}
		if name == "Bytes" {
			x.Bytes, rest = bytes.Clone(rest), nil
			continue
		}
		p.put(&x, int(n))
	}
	if len(rest) > 0 {
		return api.Call{}, false
	}
	return x, true
}

// alike tells whether two calls are, without asking Same.
func alike(x, y api.Call) bool {
	if !bytes.Equal(x.Bytes, y.Bytes) {
		return false
	}
	x.Bytes, y.Bytes = nil, nil
	return reflect.DeepEqual(x, y)
}

// twin is a call like x with bytes of its own.
func twin(x api.Call) api.Call {
	x.Bytes = bytes.Clone(x.Bytes)
	return x
}

// wantMay holds what May answers against what it is to answer.
func wantMay(t *testing.T, x api.Call, want bool) {
	t.Helper()
	if got := calls.May(x); got != want {
		t.Errorf("May(%+v): %t", x, got)
	}
}

// wantForm holds what Bytes answers against a form, and what Read answers of the form against the call.
func wantForm(t *testing.T, x api.Call, want []byte) {
	t.Helper()
	wantMay(t, x, true)
	if got, e := calls.Bytes(x); e != api.OK || !bytes.Equal(got, want) {
		t.Errorf("Bytes(%+v): %x, error %d; not %x", x, got, e, want)
	}
	wantRead(t, want, x)
}

// wantNoForm holds what May and Bytes answer of a call that may not be.
func wantNoForm(t *testing.T, x api.Call) {
	t.Helper()
	wantMay(t, x, false)
	if got, e := calls.Bytes(x); e != api.ErrArg || len(got) != 0 {
		t.Errorf("Bytes(%+v): %x, error %d; not error %d", x, got, e, api.ErrArg)
	}
}

// wantRead holds what Read answers against a call.
func wantRead(t *testing.T, b []byte, want api.Call) {
	t.Helper()
	if got, e := calls.Read(b); e != api.OK || !alike(got, want) {
		t.Errorf("Read(%x): %+v, error %d; not %+v", b, got, e, want)
	}
}

// wantNoRead holds what Read answers of what is no form against what it is to answer.
func wantNoRead(t *testing.T, b []byte) {
	t.Helper()
	if got, e := calls.Read(b); e != api.ErrForm || !alike(got, api.Call{}) {
		t.Errorf("Read(%x): %+v, error %d; not error %d", b, got, e, api.ErrForm)
	}
}

// wantPlain holds what Read answers against what plainRead does.
func wantPlain(t *testing.T, b []byte) {
	t.Helper()
	if x, ok := plainRead(b); ok {
		wantForm(t, x, b)
		return
	}
	wantNoRead(t, b)
}

// wantSame holds what Same answers, both ways round, against what it is to answer.
func wantSame(t *testing.T, x, y api.Call, want bool) {
	t.Helper()
	if there, back := calls.Same(x, y), calls.Same(y, x); there != want || back != want {
		t.Errorf("Same of %+v and %+v: %t, %t", x, y, there, back)
	}
}

// digits are the bytes that a text of hexadecimal digits and blanks names.
func digits(t *testing.T, text string) []byte {
	t.Helper()
	b, err := hex.DecodeString(strings.ReplaceAll(text, " ", ""))
	if err != nil {
		t.Fatal(err)
	}
	return b
}

// numbers are the bytes of whole numbers.
func numbers(l ...uint64) []byte {
	var b []byte
	for _, n := range l {
		b = binary.LittleEndian.AppendUint64(b, n)
	}
	return b
}

// The kinds have the numbers that the chapter's table gives them, one behind the other from 1 on.
func TestKinds(t *testing.T) {
	if !slices.Equal(kinds(), []api.CallKind{
		api.CallSpawn, api.CallExit, api.CallMmap, api.CallMunmap, api.CallMprotect, api.CallMlock, api.CallMunlock,
		api.CallLoad, api.CallStore, api.CallKmalloc, api.CallKfree, api.CallPeek, api.CallPoke, api.CallSetPolicy,
		api.CallMbind, api.CallGetPolicy, api.CallWhere, api.CallMovePages, api.CallKswapd, api.CallCompact, api.CallReap,
	}) || len(kinds()) != 21 {
		t.Error("the kinds are not 1 to 21")
	}
}

func TestP19_1Examples(t *testing.T) {
	wantForm(t, api.Call{Kind: exit, Pid: 3}, []byte{2, 0, 0, 0, 0, 0, 0, 0, 3, 0, 0, 0, 0, 0, 0, 0})
	wantNoRead(t, nil)
	wantNoRead(t, []byte{})
	wantRead(t, []byte{1, 0, 0, 0, 0, 0, 0, 0}, api.Call{Kind: spawn})
}

// Each kind's form, byte by byte.
func TestP19_1FormsByHand(t *testing.T) {
	const (
		pid    = "03 00 00 00 00 00 00 00"
		page   = "02 01 00 00 00 00 00 00"
		count  = "07 00 00 00 00 00 00 80"
		node   = "fe ff ff ff ff ff ff ff"
		addr   = "08 07 06 05 04 03 02 01"
		size   = "ff ff ff ff ff ff ff 7f"
		handle = "41 80 01 00 00 00 00 ff"
		rights = "ff 00 00 00 00 00 00 00"
		policy = "02 00 00 00 00 00 00 00 85 00 00 00 00 00 00 00"
		three  = "03 00 00 00 00 00 00 00 09 00 fe"
	)
	all := api.Call{
		Pid: 3, Page: 258, Count: math.MinInt + 7, Node: -2, Addr: 0x0102030405060708, Size: math.MaxInt,
		Handle: 0xff00000000018041, Rights: 255, Policy: api.Policy{Kind: 2, Mask: 133}, Bytes: []byte{9, 0, 254},
	}
	for i, want := range []string{
		"01 00 00 00 00 00 00 00",
		"02 00 00 00 00 00 00 00" + pid,
		"03 00 00 00 00 00 00 00" + pid + page + count + rights,
		"04 00 00 00 00 00 00 00" + pid + page + count,
		"05 00 00 00 00 00 00 00" + pid + page + count + rights,
		"06 00 00 00 00 00 00 00" + pid + page + count,
		"07 00 00 00 00 00 00 00" + pid + page + count,
		"08 00 00 00 00 00 00 00" + pid + addr + size,
		"09 00 00 00 00 00 00 00" + pid + addr + three,
		"0a 00 00 00 00 00 00 00" + size,
		"0b 00 00 00 00 00 00 00" + handle,
		"0c 00 00 00 00 00 00 00" + handle + addr + size,
		"0d 00 00 00 00 00 00 00" + handle + addr + three,
		"0e 00 00 00 00 00 00 00" + pid + policy,
		"0f 00 00 00 00 00 00 00" + pid + page + count + policy,
		"10 00 00 00 00 00 00 00" + pid + page,
		"11 00 00 00 00 00 00 00" + pid + page,
		"12 00 00 00 00 00 00 00" + pid + page + count + node,
		"13 00 00 00 00 00 00 00" + node,
		"14 00 00 00 00 00 00 00" + node,
		"15 00 00 00 00 00 00 00",
	} {
		x := api.Call{Kind: api.CallKind(i + 1)}
		for _, p := range parts() {
			if p.name != "Bytes" && slices.Contains(table(x.Kind), p.name) {
				p.put(&x, p.get(all))
			}
		}
		if slices.Contains(table(x.Kind), "Bytes") {
			x.Bytes = all.Bytes
		}
		wantForm(t, x, digits(t, want))
	}
}

// All fields, at all their edges, alone and beside others: the call may be, has its form, and is read out of it.
func TestP19_1FormsOfAllFields(t *testing.T) {
	for _, kind := range kinds() {
		for _, x := range several(kind) {
			wantForm(t, x, form(x))
		}
		for _, name := range table(kind) {
			p := partOf(name)
			for _, n := range append([]int{0}, p.edges...) {
				for _, x := range []api.Call{{Kind: kind}, filled(kind, 5)} {
					p.put(&x, n)
					wantForm(t, x, form(x))
				}
			}
		}
	}
}

// A store and a poke have each number of bytes up to 8, and bytes of each value.
func TestP19_1FormsOfBytes(t *testing.T) {
	for _, kind := range []api.CallKind{store, poke} {
		for n := range mostBytes + 1 {
			x := filled(kind, n)
			x.Bytes = some(n)
			wantForm(t, x, form(x))
			x.Bytes = make([]byte, n)
			wantForm(t, x, form(x))
		}
		for value := range 256 {
			x := api.Call{Kind: kind, Bytes: []byte{byte(value), 0, byte(255 - value)}}
			wantForm(t, x, form(x))
		}
		for _, n := range []int{9, 10, 15, 16, 17, 255, 256, 257, 264, 1 << 16} {
			x := filled(kind, 1)
			x.Bytes = make([]byte, n)
			wantNoForm(t, x)
			wantNoForm(t, api.Call{Kind: kind, Bytes: some(n)})
		}
	}
}

// No bytes and an empty list of them are the same, whether the kind has bytes or not.
func TestP19_1FormsOfNoBytes(t *testing.T) {
	for _, kind := range kinds() {
		x := api.Call{Kind: kind, Bytes: []byte{}}
		wantForm(t, x, form(x))
		wantSame(t, x, api.Call{Kind: kind}, true)
	}
}

// A field that a kind has not, at any edge, whatever the others are: the call may not be.
func TestP19_1MayOfOtherFields(t *testing.T) {
	for _, kind := range kinds() {
		for _, p := range parts() {
			if slices.Contains(table(kind), p.name) {
				continue
			}
			for _, n := range p.edges {
				for _, x := range []api.Call{{Kind: kind}, filled(kind, 2)} {
					p.put(&x, n)
					wantNoForm(t, x)
					p.put(&x, 0)
					wantMay(t, x, true)
				}
			}
		}
	}
}

// Bytes that are noughts are there all the same.
func TestP19_1MayOfNoughts(t *testing.T) {
	for _, kind := range kinds() {
		for _, n := range []int{1, 8, 9, 256, 512} {
			wantMay(t, api.Call{Kind: kind, Bytes: make([]byte, n)}, n <= mostBytes && (kind == store || kind == poke))
		}
	}
}

// A kind that is none may not be, without fields and with each one.
func TestP19_1MayOfNoKind(t *testing.T) {
	for _, kind := range noKinds() {
		wantNoForm(t, api.Call{Kind: kind})
		for _, p := range parts() {
			x := api.Call{Kind: kind}
			p.put(&x, p.edges[0])
			wantNoForm(t, x)
		}
	}
}

// A form that is cut short anywhere, or has more behind it, is none.
func TestP19_1ReadOfOtherLengths(t *testing.T) {
	for _, kind := range kinds() {
		for turn := range 6 {
			whole := form(filled(kind, turn))
			for n := range whole {
				wantNoRead(t, whole[:n])
			}
			for _, more := range [][]byte{{0}, {1}, {255}, make([]byte, 7), make([]byte, 8), some(8), make([]byte, 16), make([]byte, 256), whole} {
				wantNoRead(t, slices.Concat(whole, more))
			}
			wantNoRead(t, whole[1:])
			wantNoRead(t, append([]byte{0}, whole...))
		}
	}
}

// A kind that is none, with nothing behind it and with each number of whole numbers, is none.
func TestP19_1ReadOfNoKind(t *testing.T) {
	l := []uint64{0, 22, 23, 128, 254, 255, 256, 257, 258, 264, 277, 512, 513, 1<<16 + 1, 1<<32 + 1, 1<<56 + 1, 1<<63 + 1, 1 << 63, math.MaxUint64 - 20, math.MaxUint64}
	for _, kind := range kinds() {
		l = append(l, uint64(kind)<<8, uint64(kind)+256, uint64(kind)+1<<32, -uint64(kind))
	}
	for _, kind := range l {
		for n := range 8 {
			wantNoRead(t, append(numbers(kind), make([]byte, 8*n)...))
			wantNoRead(t, append(numbers(kind), bytes.Repeat(numbers(1), n)...))
		}
	}
}

// What is behind the range of a byte is no Rights, no policy's Kind and no Mask.
func TestP19_1ReadOfNarrowFields(t *testing.T) {
	for _, kind := range kinds() {
		for i, name := range table(kind) {
			if !partOf(name).narrow {
				continue
			}
			for n := range uint64(256) {
				b := form(filled(kind, 4))
				binary.LittleEndian.PutUint64(b[8+8*i:], n)
				wantPlain(t, b)
			}
			for _, n := range []uint64{256, 257, 258, 259, 511, 512, 1<<16 + 2, 1 << 31, 1 << 32, 1<<32 + 3, 1 << 56, 1 << 63, 1<<63 + 1, math.MaxUint64 - 255, math.MaxUint64 - 254, math.MaxUint64} {
				b := form(filled(kind, 4))
				binary.LittleEndian.PutUint64(b[8+8*i:], n)
				wantNoRead(t, b)
			}
		}
	}
}

// How many bytes there are is just what is said, and at most 8.
func TestP19_1ReadOfHowMany(t *testing.T) {
	said := []uint64{
		0, 1, 2, 3, 7, 8, 9, 10, 16, 255, 256, 257, 264, 1 << 16, 1 << 31, 1 << 32, 1<<32 + 1, 1<<32 + 8, 1 << 56, 1<<61 + 1, 1<<62 - 1, 1 << 62,
		math.MaxInt - 8, math.MaxInt, 1 << 63, 1<<63 + 1, math.MaxUint64 - 255, math.MaxUint64 - 8, math.MaxUint64 - 7, math.MaxUint64 - 1, math.MaxUint64,
	}
	for _, kind := range []api.CallKind{store, poke} {
		for _, n := range said {
			for _, there := range []int{0, 1, 2, 3, 7, 8, 9, 10, 16, 255, 256, 257} {
				b := append(numbers(uint64(kind), 1, 2, n), some(there)...)
				if n != uint64(there) || there > mostBytes {
					wantNoRead(t, b)
					continue
				}
				x := api.Call{Kind: kind, Addr: 2, Bytes: some(there)}
				if kind == store {
					x.Pid = 1
				} else {
					x.Handle = 1
				}
				wantForm(t, x, b)
			}
		}
	}
}

// Forms with a byte, or two, changed: what is read of them is what they say, and nothing of what says nothing.
func TestP19_1ReadOfChangedForms(t *testing.T) {
	for _, kind := range kinds() {
		for _, turn := range []int{0, 1, 4} {
			whole := form(filled(kind, turn))
			for i := range whole {
				for _, value := range []byte{0, 1, 2, 3, 8, 9, 12, 13, 14, 15, 18, 21, 22, 127, 128, 255} {
					b := bytes.Clone(whole)
					b[i] = value
					wantPlain(t, b)
					wantPlain(t, b[:len(b)-1])
					b[(i+8)%len(b)] ^= 1
					wantPlain(t, b)
				}
			}
		}
	}
}

// Bytes of all kinds and lengths: there is one form of each, at most.
func TestP19_1ReadAllOver(t *testing.T) {
	seed, read := uint64(19), 0
	draw := func(n int) int {
		seed = seed*6364136223846793005 + 1442695040888963407
		return int(seed>>33) % n
	}
	for range 30000 {
		b := numbers(uint64(draw(23)))
		for range draw(7) {
			b = append(b, numbers(uint64(draw(10)))...)
		}
		b = append(b, some(draw(2)*draw(10))...)
		if draw(4) == 0 {
			b[draw(len(b))] = byte(draw(256))
		}
		if _, ok := plainRead(b); ok {
			read++
		}
		wantPlain(t, b)
	}
	if read < 1000 {
		t.Errorf("%d of them are forms alone: too few to tell", read)
	}
}

// What Bytes tells is the caller's own, and what it is told is neither kept nor written to.
func TestP19_1BytesIsTheCallers(t *testing.T) {
	for _, kind := range kinds() {
		for turn := range 6 {
			x := filled(kind, turn)
			want := form(x)
			kept := slices.Concat(x.Bytes, []byte{77, 78, 79})
			was := bytes.Clone(kept)
			x.Bytes = kept[:len(x.Bytes)]
			first, _ := calls.Bytes(x)
			second, _ := calls.Bytes(x)
			for i := range first {
				first[i] ^= 255
			}
			_ = append(first, 1, 2, 3)
			if !bytes.Equal(kept, was) {
				t.Errorf("Bytes(%+v): what was handed in is %x by now, not %x", x, kept, was)
			}
			for i := range kept {
				kept[i] ^= 255
			}
			if !bytes.Equal(second, want) {
				t.Errorf("Bytes(%+v): what was told is %x by now, not %x", x, second, want)
			}
			copy(kept, was)
			wantForm(t, x, want)
		}
	}
}

// What Read tells is the caller's own, and what it is told is neither kept nor written to.
func TestP19_1ReadIsTheCallers(t *testing.T) {
	for _, kind := range kinds() {
		for turn := range 6 {
			want := filled(kind, turn)
			b := append(form(want), 77, 78, 79)
			was := bytes.Clone(b)
			whole := b[:len(b)-3]
			first, _ := calls.Read(whole)
			second, _ := calls.Read(whole)
			for i := range first.Bytes {
				first.Bytes[i] ^= 255
			}
			_ = append(first.Bytes, 1, 2, 3)
			if !bytes.Equal(b, was) {
				t.Errorf("Read of %x: it is %x by now", was, b)
			}
			for i := range b {
				b[i] ^= 255
			}
			if !alike(second, want) {
				t.Errorf("Read of %x: what was told is %+v by now, not %+v", was, second, want)
			}
			copy(b, was)
			wantRead(t, whole, want)
		}
	}
}

// Calls that differ in one field, be it one of the kind's or not, are not the same; those that differ in none are.
func TestP19_1SameByFields(t *testing.T) {
	for kind := range 256 {
		for _, base := range []api.Call{{}, filled(store, 3), filled(mbind, 1)} {
			base.Kind = api.CallKind(kind)
			wantSame(t, base, twin(base), true)
			for _, p := range parts() {
				for _, n := range append([]int{0}, p.edges...) {
					x := twin(base)
					p.put(&x, n)
					wantSame(t, x, twin(x), true)
					wantSame(t, base, x, alike(base, x))
				}
			}
		}
	}
}

// Each two numbers of a field make two calls.
func TestP19_1SameByNumbers(t *testing.T) {
	for _, p := range parts() {
		l := append([]int{0}, p.edges...)
		for i, n := range l {
			for j, m := range l {
				x, y := api.Call{Kind: reap}, api.Call{Kind: reap}
				p.put(&x, n)
				p.put(&y, m)
				wantSame(t, x, y, i == j)
			}
		}
	}
}

// Two fields that change places are not the same.
func TestP19_1SameByPlaces(t *testing.T) {
	l := parts()
	for i, p := range l {
		for j, q := range l {
			x, y := api.Call{Kind: mmap}, api.Call{Kind: mmap}
			p.put(&x, 1)
			q.put(&y, 1)
			wantSame(t, x, y, i == j)
		}
	}
}

func TestP19_1SameByKinds(t *testing.T) {
	for kind := range 256 {
		for other := range 256 {
			x, y := filled(store, 2), filled(store, 2)
			x.Kind, y.Kind = api.CallKind(kind), api.CallKind(other)
			wantSame(t, x, y, kind == other)
		}
	}
}

// Bytes are alike, if there are as many and each one is: more than may be, too.
func TestP19_1SameByBytes(t *testing.T) {
	for _, kind := range []api.CallKind{0, spawn, store, poke, noKind} {
		for _, n := range []int{0, 1, 2, 7, 8, 9, 255, 256, 257, 65536} {
			x, y := api.Call{Kind: kind, Bytes: some(n)}, api.Call{Kind: kind, Bytes: some(n)}
			wantSame(t, x, y, true)
			y.Bytes = append(y.Bytes, 0)
			wantSame(t, x, y, false)
			y.Bytes = y.Bytes[:n]
			for _, i := range []int{0, 1, n / 2, n - 2, n - 1} {
				if i < 0 || i >= n {
					continue
				}
				y.Bytes[i] ^= 128
				wantSame(t, x, y, false)
				y.Bytes[i] ^= 128
				wantSame(t, x, y, true)
			}
		}
		wantSame(t, api.Call{Kind: kind}, api.Call{Kind: kind, Bytes: []byte{}}, true)
		wantSame(t, api.Call{Kind: kind}, api.Call{Kind: kind, Bytes: []byte{0}}, false)
	}
}

// Nothing is kept: what is wrong in between changes no later answer.
func TestP19_1AskedAgain(t *testing.T) {
	for range 3 {
		for _, kind := range kinds() {
			wantNoForm(t, api.Call{Kind: 0, Pid: 3})
			wantNoRead(t, numbers(uint64(kind)+256))
			wantForm(t, filled(kind, 2), form(filled(kind, 2)))
		}
	}
}

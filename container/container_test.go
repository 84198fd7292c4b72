package container_test

import (
	"bytes"
	"math"
	"math/rand"
	"slices"
	"testing"

	"folio/api"
	"folio/container"
	"folio/crc"
	"folio/entropy"
)

func noise(r *rand.Rand, size int) []byte {
	b := make([]byte, size)
	r.Read(b)
	return b
}

// prose gives words of a few letters, of which the order makes a block shorter.
func prose(r *rand.Rand, size int) []byte {
	words := []string{"one ", "block ", "and ", "another ", "of ", "the ", "same ", "kind, "}
	var b []byte
	for len(b) < size {
		b = append(b, words[r.Intn(len(words))]...)
	}
	return b[:size]
}

// mixed gives blocks of which some are stored as they are, and others shorter.
func mixed(r *rand.Rand, size int) []byte {
	var b []byte
	for len(b) < size {
		switch r.Intn(3) {
		case 0:
			b = append(b, noise(r, api.MaxBlock)...)
		case 1:
			b = append(b, prose(r, api.MaxBlock)...)
		default:
			b = append(b, bytes.Repeat([]byte{byte(r.Intn(256))}, api.MaxBlock)...)
		}
	}
	return b[:size]
}

func sizes() []int {
	return []int{0, 1, 2, 3, 20, 500, 998, 999, 1000, 1001, 1999, 2000, 2001, 2999, 3000, 3001, 4500, 9999, 10_000}
}

// samples gives byte strings of each size, of all kinds.
func samples(r *rand.Rand) [][]byte {
	var all [][]byte
	for _, n := range sizes() {
		all = append(all, noise(r, n), prose(r, n), mixed(r, n), make([]byte, n), bytes.Repeat([]byte{255}, n))
	}
	return all
}

func lengthsOf(n int) []int {
	var all []int
	for ; n > 0; n -= 1000 {
		all = append(all, min(n, 1000))
	}
	return all
}

func wantText(t *testing.T, got []byte, err api.Errno, want []byte) {
	t.Helper()
	if !bytes.Equal(got, want) || err != api.OK {
		t.Fatalf("%d bytes and %d, not the %d bytes that were packed", len(got), err, len(want))
	}
}

func wantErr(t *testing.T, got []byte, err, want api.Errno) {
	t.Helper()
	if got != nil || err != want {
		t.Fatalf("%d bytes and %d, not %d", len(got), err, want)
	}
}

// wantCorrupt asks each function for the answer to what is no container, nor one in which bytes were changed.
func wantCorrupt(t *testing.T, c []byte) {
	t.Helper()
	b, err := container.Unpack(c, math.MaxInt)
	wantErr(t, b, err, api.ErrCorrupt)
	l, err := container.Blocks(c)
	if l != nil || err != api.ErrCorrupt {
		t.Fatalf("Blocks: %v, %d", l, err)
	}
	b, err = container.Part(c, 0, 0)
	wantErr(t, b, err, api.ErrCorrupt)
}

// wantSameOrCorrupt asks each function about a container of b in which bytes were changed.
func wantSameOrCorrupt(t *testing.T, c, b []byte) {
	t.Helper()
	got, err := container.Unpack(c, len(b))
	wantErr(t, got, err, api.ErrCorrupt)
	got, err = container.Unpack(c, len(b)-1)
	if got != nil || err != api.ErrCorrupt && err != api.ErrTooLarge {
		t.Fatalf("Unpack with %d: %d bytes, %d", len(b)-1, len(got), err)
	}
	l, err := container.Blocks(c)
	if l != nil || err != api.ErrCorrupt {
		t.Fatalf("Blocks: %v, %d", l, err)
	}
	for from := 0; from <= len(b); from += 250 {
		n := min(len(b)-from, 400)
		got, err = container.Part(c, from, n)
		if err == api.OK && bytes.Equal(got, b[from:from+n]) {
			continue
		}
		wantErr(t, got, err, api.ErrCorrupt)
	}
	got, err = container.Part(c, len(b), 1)
	if got != nil || err != api.ErrCorrupt && err != api.ErrRange {
		t.Fatalf("Part behind all: %d bytes, %d", len(got), err)
	}
}

func changed(c []byte, at int, x byte) []byte {
	c = slices.Clone(c)
	c[at] ^= x
	return c
}

func TestP11_1Example(t *testing.T) {
	b := prose(rand.New(rand.NewSource(1)), 4500)
	c := container.Pack(b)
	got, err := container.Unpack(c, 4500)
	wantText(t, got, err, b)
	got, err = container.Unpack(c, 4499)
	wantErr(t, got, err, api.ErrTooLarge)
	l, err := container.Blocks(c)
	if !slices.Equal(l, []int{1000, 1000, 1000, 1000, 500}) || err != api.OK {
		t.Errorf("%v, %d", l, err)
	}
	got, err = container.Part(c, 4500, 1)
	wantErr(t, got, err, api.ErrRange)
	wantCorrupt(t, append(slices.Clone(c), 0))
	for k := len(c) - 20; k < len(c); k++ {
		wrong := changed(c, k, 1)
		got, err = container.Part(wrong, 0, 3500)
		wantText(t, got, err, b[:3500])
		got, err = container.Part(wrong, 4400, 50)
		wantErr(t, got, err, api.ErrCorrupt)
		got, err = container.Unpack(wrong, 4500)
		wantErr(t, got, err, api.ErrCorrupt)
	}
}

func TestP11_1ThereAndBack(t *testing.T) {
	for _, b := range samples(rand.New(rand.NewSource(2))) {
		c := container.Pack(b)
		for _, most := range []int{len(b), len(b) + 1, math.MaxInt} {
			got, err := container.Unpack(c, most)
			wantText(t, got, err, b)
		}
		for _, most := range []int{len(b) - 1, len(b) / 2, 0, -1, math.MinInt} {
			if most < len(b) {
				got, err := container.Unpack(c, most)
				wantErr(t, got, err, api.ErrTooLarge)
			}
		}
		if l, err := container.Blocks(c); !slices.Equal(l, lengthsOf(len(b))) || err != api.OK {
			t.Fatalf("%d bytes: Blocks %v, %d", len(b), l, err)
		}
	}
}

func TestP11_1EachShortSize(t *testing.T) {
	r := rand.New(rand.NewSource(3))
	for n := range 1100 {
		for _, b := range [][]byte{noise(r, n), prose(r, n)} {
			c := container.Pack(b)
			got, err := container.Unpack(c, n)
			wantText(t, got, err, b)
			got, err = container.Unpack(c, n-1)
			wantErr(t, got, err, api.ErrTooLarge)
			wantSize(t, b, c)
		}
	}
}

// wantSize asks for the promised size of a container, and for its blocks, each stored in the shorter of the two ways.
func wantSize(t *testing.T, b, c []byte) {
	t.Helper()
	count, rest, stored := 0, c, 0
	for block := range slices.Chunk(b, 1000) {
		count++
		want := block
		if code := entropy.Encode(block); len(code) < len(block) {
			want = code
		}
		_, behind, ok := bytes.Cut(rest, want)
		if !ok {
			t.Fatalf("%d bytes: block %d is stored in another way", len(b), count-1)
		}
		rest, stored = behind, stored+len(want)
	}
	if len(c) > len(b)+32+16*count || len(c) > stored+32+16*count {
		t.Fatalf("%d bytes in %d blocks, of which %d are stored: %d bytes", len(b), count, stored, len(c))
	}
}

func TestP11_1Sizes(t *testing.T) {
	r := rand.New(rand.NewSource(4))
	for _, b := range samples(r) {
		wantSize(t, b, container.Pack(b))
	}
	for _, n := range []int{100_000, 123_456} {
		for _, b := range [][]byte{noise(r, n), prose(r, n), mixed(r, n), make([]byte, n)} {
			wantSize(t, b, container.Pack(b))
		}
	}
	if c := container.Pack(nil); len(c) > 32 {
		t.Errorf("no bytes: %d bytes", len(c))
	}
	if c := container.Pack(prose(r, 10_000)); len(c) > 7_000 {
		t.Errorf("10000 bytes of prose: %d bytes", len(c))
	}
}

// Blocks about as long as their encoding: some of them exactly, which are stored unchanged.
func TestP11_1AsLongAsTheEncoding(t *testing.T) {
	b := noise(rand.New(rand.NewSource(5)), api.MaxBlock)
	for k := range b {
		b[k] %= 100
	}
	met := map[int]int{}
	for n := 200; n < 700; n++ {
		d := len(entropy.Encode(b[:n])) - n
		if d < -1 || d > 1 {
			continue
		}
		met[d]++
		c := container.Pack(b[:n])
		wantSize(t, b[:n], c)
		got, err := container.Unpack(c, n)
		wantText(t, got, err, b[:n])
	}
	if met[-1] == 0 || met[0] == 0 || met[1] == 0 {
		t.Errorf("blocks by how much longer their encoding is: %v", met)
	}
}

// places gives the edges of all blocks of n bytes, and what lies beside them.
func places(n int) []int {
	all := []int{math.MinInt, -1000, n, n + 1, n + 1000, math.MaxInt - 1, math.MaxInt}
	for at := 0; at <= n+1000; at += 1000 {
		all = append(all, at-1, at, at+1, at+500)
	}
	return all
}

func TestP11_1Parts(t *testing.T) {
	r := rand.New(rand.NewSource(6))
	for _, size := range []int{0, 1, 999, 1000, 1001, 2000, 3500} {
		b := mixed(r, size)
		c := container.Pack(b)
		for _, from := range places(size) {
			for _, n := range places(size) {
				got, err := container.Part(c, from, n)
				if from < 0 || n < 0 || from > size || n > size-from {
					wantErr(t, got, err, api.ErrRange)
				} else {
					wantText(t, got, err, b[from:from+n])
				}
			}
		}
	}
	b := mixed(r, 6_300)
	c := container.Pack(b)
	for range 2_000 {
		from := r.Intn(len(b) + 1)
		n := r.Intn(len(b) - from + 1)
		got, err := container.Part(c, from, n)
		wantText(t, got, err, b[from:from+n])
	}
}

// owner tells which block byte k of the container c of b belongs to, by the parts that change it corrupts; -1: all of
// them, as it belongs to the head.
func owner(t *testing.T, c, b []byte, k int) int {
	t.Helper()
	wrong := changed(c, k, 1<<(k%8))
	var bad []int
	count := 0
	for from := 0; from < len(b); from += 1000 {
		n := min(1000, len(b)-from)
		got, err := container.Part(wrong, from, n)
		if err == api.OK {
			wantText(t, got, err, b[from:from+n])
		} else {
			wantErr(t, got, err, api.ErrCorrupt)
			bad = append(bad, from/1000)
		}
		count++
	}
	switch {
	case len(bad) == 1 && count > 1:
		return bad[0]
	case len(bad) != count:
		t.Fatalf("byte %d: the blocks %v of %d are corrupt", k, bad, count)
	}
	return -1
}

// A change in a block is one for the parts that have bytes of it, and for no others.
func TestP11_1OneCorruptBlock(t *testing.T) {
	r := rand.New(rand.NewSource(7))
	for _, size := range []int{2000, 3001, 4500} {
		b := mixed(r, size)
		c := container.Pack(b)
		count := len(lengthsOf(size))
		met := make([]int, count)
		head := 0
		for k := range c {
			at := owner(t, c, b, k)
			if at < 0 {
				head++
				continue
			}
			met[at]++
			if k%17 > 0 {
				continue
			}
			wrong := changed(c, k, 0x80)
			start, end := at*1000, min(at*1000+1000, size)
			for _, x := range [][2]int{{0, start}, {end, size - end}, {start, 0}, {start + 1, 0}, {end, 0}, {size, 0}} {
				got, err := container.Part(wrong, x[0], x[1])
				wantText(t, got, err, b[x[0]:x[0]+x[1]])
			}
			for _, x := range [][2]int{{0, start + 1}, {start, 1}, {end - 1, 1}, {end - 1, size - end + 1}, {start, end - start}, {0, size}} {
				got, err := container.Part(wrong, x[0], x[1])
				wantErr(t, got, err, api.ErrCorrupt)
			}
		}
		for k, n := range met {
			if n == 0 {
				t.Errorf("%d bytes: no byte of block %d", size, k)
			}
		}
		if head == 0 || head > 32+16*count {
			t.Errorf("%d bytes: %d bytes of the head", size, head)
		}
	}
}

func TestP11_1OneFault(t *testing.T) {
	r := rand.New(rand.NewSource(8))
	for _, size := range []int{0, 1, 7, 900, 1000, 1001, 2500} {
		for _, b := range [][]byte{noise(r, size), prose(r, size), make([]byte, size)} {
			c := container.Pack(b)
			for k := 0; k < len(c); k += 1 + len(c)/250 {
				wantSameOrCorrupt(t, changed(c, k, byte(1+r.Intn(255))), b)
				wantSameOrCorrupt(t, changed(c, k, 1<<r.Intn(8)), b)
			}
			for bit := range 8 * min(len(c), 60) {
				wantSameOrCorrupt(t, changed(c, bit/8, 1<<(bit%8)), b)
			}
		}
	}
}

func TestP11_1ManyFaults(t *testing.T) {
	r := rand.New(rand.NewSource(9))
	for range 300 {
		b := mixed(r, r.Intn(4_000))
		c := container.Pack(b)
		wrong := slices.Clone(c)
		for range 1 + r.Intn(20) {
			copy(wrong[r.Intn(len(c)):], noise(r, 1+r.Intn(9)))
		}
		if !bytes.Equal(wrong, c) {
			wantSameOrCorrupt(t, wrong, b)
		}
		for k, x := range []byte{0, 255} {
			wrong = slices.Clone(c)
			from := r.Intn(len(c))
			for at := from; at < min(len(c), from+64<<(3*k)); at++ {
				wrong[at] = x
			}
			if !bytes.Equal(wrong, c) {
				wantSameOrCorrupt(t, wrong, b)
			}
		}
	}
}

func TestP11_1MoreAndLess(t *testing.T) {
	r := rand.New(rand.NewSource(10))
	for _, size := range []int{0, 1, 800, 1000, 2300} {
		b := mixed(r, size)
		c := container.Pack(b)
		for _, more := range [][]byte{{0}, {1}, {255}, make([]byte, 12), c, b, crc.Seal(nil)} {
			if len(more) > 0 {
				wantCorrupt(t, slices.Concat(c, more))
				wantCorrupt(t, slices.Concat(more[:1], c))
			}
		}
		for n := range c {
			wantCorrupt(t, c[:n])
			wantCorrupt(t, slices.Delete(slices.Clone(c), n, n+1))
		}
	}
}

// One head with the blocks of another one, and blocks that changed places.
func TestP11_1OthersBlocks(t *testing.T) {
	r := rand.New(rand.NewSource(11))
	one, other := noise(r, 3000), noise(r, 3000)
	c, d := container.Pack(one), container.Pack(other)
	head := len(c) - 3000
	wantSameOrCorrupt(t, slices.Concat(c[:head], d[head:]), one)
	wantSameOrCorrupt(t, slices.Concat(c[:head], c[head+1000:head+2000], c[head:head+1000], c[head+2000:]), one)
	got, err := container.Part(slices.Concat(c[:head], c[head:head+1000], d[head+1000:]), 0, 1000)
	wantText(t, got, err, one[:1000])
}

// Which error counts where several do.
func TestP11_1OrderOfErrors(t *testing.T) {
	b := noise(rand.New(rand.NewSource(12)), 2500)
	c := container.Pack(b)
	head, last := changed(c, 0, 1), changed(c, len(c)-1, 1)
	for _, x := range [][2]int{{-1, 0}, {0, -1}, {2500, 1}, {2501, 0}, {0, 2501}, {math.MaxInt, math.MaxInt}, {math.MinInt, math.MinInt}} {
		got, err := container.Part(head, x[0], x[1])
		wantErr(t, got, err, api.ErrCorrupt)
		got, err = container.Part(last, x[0], x[1])
		wantErr(t, got, err, api.ErrRange)
	}
	got, err := container.Part(last, 2499, 1)
	wantErr(t, got, err, api.ErrCorrupt)
	got, err = container.Part(last, 2499, 2)
	wantErr(t, got, err, api.ErrRange)
}

// Lists that nobody packed.
func TestP11_1Anything(t *testing.T) {
	r := rand.New(rand.NewSource(13))
	for _, c := range [][]byte{nil, {}, {0}, make([]byte, 11), make([]byte, 12), make([]byte, 16), make([]byte, 5000), bytes.Repeat([]byte{255}, 5000)} {
		wantCorrupt(t, c)
	}
	for range 5_000 {
		wantCorrupt(t, noise(r, r.Intn(100)))
		wantCorrupt(t, prose(r, r.Intn(3000)))
		wantCorrupt(t, crc.Seal(noise(r, r.Intn(40))))
		wantCorrupt(t, append(crc.Seal(noise(r, r.Intn(40))), noise(r, r.Intn(40))...))
	}
	for size := range 50 {
		for _, x := range []byte{0, 1, 255} {
			if c := crc.Seal(bytes.Repeat([]byte{x}, size)); !bytes.Equal(c, container.Pack(nil)) {
				wantCorrupt(t, c)
			}
		}
	}
	wantCorrupt(t, entropy.Encode(prose(r, 1000)))
}

func TestP11_1ContainersInContainers(t *testing.T) {
	r := rand.New(rand.NewSource(14))
	all := [][]byte{mixed(r, 2500)}
	for k := range 5 {
		all = append(all, container.Pack(all[k]))
	}
	for k := range 5 {
		got, err := container.Unpack(all[k+1], len(all[k]))
		wantText(t, got, err, all[k])
	}
}

func TestP11_1LongOnes(t *testing.T) {
	r := rand.New(rand.NewSource(15))
	const size = 1<<20 + 77
	for _, b := range [][]byte{noise(r, size), prose(r, size), make([]byte, size)} {
		c := container.Pack(b)
		got, err := container.Unpack(c, size)
		wantText(t, got, err, b)
		if l, err := container.Blocks(c); !slices.Equal(l, lengthsOf(size)) || err != api.OK {
			t.Fatalf("%d blocks, %d", len(l), err)
		}
		for range 100 {
			from := r.Intn(size)
			n := r.Intn(min(3000, size-from))
			got, err := container.Part(c, from, n)
			wantText(t, got, err, b[from:from+n])
		}
	}
}

// The same arguments get the same answer, whatever was asked before: P0.5.
func TestP11_1CallsAreApart(t *testing.T) {
	r := rand.New(rand.NewSource(16))
	for range 100 {
		b, other := mixed(r, r.Intn(3000)), mixed(r, r.Intn(3000))
		c := container.Pack(b)
		container.Unpack(container.Pack(other), 3000)
		container.Part(container.Pack(other), 0, 10)
		container.Blocks(other)
		if !bytes.Equal(container.Pack(slices.Clone(b)), c) {
			t.Fatalf("%d bytes: two containers", len(b))
		}
		got, err := container.Unpack(slices.Clone(c), len(b))
		wantText(t, got, err, b)
	}
}

func spoil[T byte | int](list []T) {
	list = list[:cap(list)]
	for k := range list {
		list[k] ^= 0xff
	}
}

// The answers are new memory, and the lists are left alone with what lies behind them: P0.3.
func TestP11_1SharesNothing(t *testing.T) {
	r := rand.New(rand.NewSource(17))
	unpack := func(c []byte) []byte {
		b, _ := container.Unpack(c, 5000)
		return b
	}
	part := func(c []byte) []byte {
		b, _ := container.Part(c, 1, 900)
		return b
	}
	for _, text := range [][]byte{nil, noise(r, 901), prose(r, 1000), noise(r, 1000), noise(r, 3300), mixed(r, 3300)} {
		c := container.Pack(text)
		for _, x := range []struct {
			call func([]byte) []byte
			list []byte
		}{{container.Pack, text}, {unpack, c}, {part, c}} {
			whole := append(slices.Clone(x.list), 1, 2, 3)
			before := slices.Clone(whole)
			list := whole[:len(x.list)]
			first, second := x.call(list), x.call(list)
			want := slices.Clone(second)
			spoil(first)
			if !bytes.Equal(second, want) || !bytes.Equal(x.call(list), want) || !bytes.Equal(whole, before) {
				t.Errorf("%d bytes: two answers share memory, or the list was changed", len(text))
			}
			spoil(whole)
			if !bytes.Equal(second, want) {
				t.Errorf("%d bytes: the answer follows its list", len(text))
			}
		}
		first, _ := container.Blocks(c)
		spoil(first)
		if second, _ := container.Blocks(c); !slices.Equal(second, lengthsOf(len(text))) {
			t.Errorf("%d bytes: Blocks %v", len(text), second)
		}
	}
}

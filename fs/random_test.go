package fs_test

import (
	"fmt"
	"math"
	"math/rand/v2"
	"slices"
	"strings"
	"testing"

	"lychgate/blockdev"
	"lychgate/fs"
)

// trial is a file system and its model, which do the same. may tells what a
// crash may leave: the states since the last Sync that was OK.
type trial struct {
	d   *blockdev.Disk
	f   *fs.FS
	m   *model
	may []string
}

func newTrial(t testing.TB, sectors int) *trial {
	t.Helper()
	d, f := made(t, sectors)
	m := newModel(sectors)
	return &trial{d: d, f: f, m: m, may: []string{dump(m.fresh())}}
}

// play does a step, and checks that it answers what the model does.
func (p *trial) play(t testing.TB, s step) {
	t.Helper()
	was := p.m.now
	got, want := s.do(p.f), s.do(p.m)
	if s.what == "sync" && p.d.Dead() {
		want = "not what it should be"
	}
	if got != want {
		t.Errorf("%s: %.200s, want %.200s", s.what, got, want)
	}
	if p.m.now != was {
		p.may = append(p.may, dump(p.m.fresh()))
	}
	if s.what == "sync" && got == "OK" {
		p.may = p.may[len(p.may)-1:]
	}
}

// same checks that the file system is to be seen as the model is.
func (p *trial) same(t testing.TB) {
	t.Helper()
	if got, want := dump(p.f), dump(p.m); got != want {
		t.Errorf("%q, want %q", got, want)
	}
}

// crash checks that what a crash leaves is one of the states that it may be,
// and goes on as a file system does. It answers what it is.
func (p *trial) crash(t testing.TB, picks []bool) string {
	t.Helper()
	f, err := fs.Mount(p.d.Crash(picks))
	if err != nil {
		t.Fatalf("behind a crash: %v", err)
	}
	is := dump(f)
	if !slices.Contains(p.may, is) {
		t.Fatalf("behind a crash: %q, want one of %q", is, p.may)
	}
	return is
}

// noise makes n bytes without a pattern, others for each seed.
func noise(seed, n int) []byte {
	r := rand.New(rand.NewPCG(uint64(seed), 7))
	b := make([]byte, n)
	for i := range b {
		b[i] = byte(r.Uint32())
	}
	return b
}

var (
	oddPaths = []string{"/", "/", "", "a", "/A", "//a", "/a/", "/..", "/" + strings.Repeat("n", 25), strings.Repeat("/a", 8), strings.Repeat("/a", 9)}
	// Numbers at which something ends, and some between.
	places  = []int{0, 0, 1, 300, 511, 512, 700, 4095, 4096, 8*512 - 7, 10000, 20000, 30000, 40000, 136*512 - 300, 136 * 512, 102400 - 512, 102399, 102400, math.MaxInt, -1, math.MinInt}
	lengths = []int{0, 1, 30, 512, 513, 1500, 3000, 4096, 4096, 4096, 4097, 5000}
)

// maker makes steps of bytes.
type maker struct {
	names  []string
	depths []int
}

// few makes names that meet often, in directories one in the other; many makes
// names enough for all nodes.
func few() maker {
	return maker{[]string{"a", "b", "c", "d.-_9", strings.Repeat("n", 24)}, []int{1, 1, 1, 1, 2, 2, 2, 3}}
}

func many() maker {
	m := maker{nil, []int{1, 1, 1, 1, 1, 1, 1, 2}}
	for i := range 45 {
		m.names = append(m.names, fmt.Sprint("n", i))
	}
	return m
}

// path makes a path, mostly of few names.
func (m maker) path(x, y byte) string {
	if x%32 == 31 {
		return oddPaths[int(y)%len(oddPaths)]
	}
	path := ""
	for range m.depths[x%8] {
		path += "/" + m.names[int(y)%len(m.names)]
		y = y/byte(len(m.names)) + x/64
	}
	return path
}

// step makes a step of five bytes.
func (m maker) step(b []byte) step {
	x, y, z := b[0], int(b[1]), int(b[2])
	fd := y % 6
	if y > 240 {
		fd = y - 245
	}
	at, n := places[z%len(places)], lengths[int(b[3])%len(lengths)]
	path := m.path(b[1], b[2])
	switch x % 32 {
	case 0, 1, 2:
		return mkdir(path)
	case 3, 4, 5, 6:
		return create(path)
	case 7, 8, 9, 10:
		return open(path)
	case 11:
		return closing(fd)
	case 12, 13:
		return read(fd, at, places[int(b[3])%len(places)])
	case 14, 15, 16, 17, 18, 19, 20:
		return write(fd, at, filled(int(b[4]), n))
	case 21, 22:
		return truncate(fd, at)
	case 23:
		return size(fd)
	case 24, 25:
		return unlink(path)
	case 26, 27, 28:
		return rename(path, m.path(b[3], b[4]))
	case 29:
		return list(path)
	case 30:
		return syncing()
	default:
		return free()
	}
}

// stepsOf makes the steps of a script. Its first byte tells how full the disk
// shall be at first, and how many names there are.
func stepsOf(script []byte) []step {
	if len(script) == 0 {
		return nil
	}
	m := few()
	if script[0]%2 > 0 {
		m = many()
	}
	l := []step{create("/big"), open("/big")}
	for k := range int(script[0]) / 2 % 9 {
		l = append(l, write(0, k*4096, filled(k, 4096)))
	}
	l = append(l, closing(0))
	for script = script[1:]; len(script) >= 5; script = script[5:] {
		l = append(l, m.step(script))
	}
	return l
}

// against plays a script on a small disk that soon is full, and on the model.
func against(t *testing.T, script []byte) {
	p := newTrial(t, 128)
	for k, s := range stepsOf(script) {
		p.play(t, s)
		if k%4 == 0 {
			p.same(t)
		}
		if k%8 == 0 {
			p.crash(t, nil)
		}
		if t.Failed() {
			t.Fatalf("step %d of %v", k, script)
		}
	}
}

func TestAgainstModel(t *testing.T) {
	t.Parallel()
	for seed := range 90 {
		against(t, noise(seed, 1500))
	}
}

func FuzzAgainstModel(f *testing.F) {
	f.Add(noise(1, 300))
	f.Add(noise(2, 900))
	f.Fuzz(against)
}

// P7.3: the power goes behind each number of writes, while the calls go on.
func TestRandomCrashes(t *testing.T) {
	t.Parallel()
	for seed := range 12 {
		steps := stepsOf(noise(1000+seed, 400))
		for cut := 0; ; cut += 1 + cut%3 {
			p := newTrial(t, 128)
			p.d.Limit(cut)
			for _, s := range steps {
				p.play(t, s)
			}
			p.same(t)
			n := p.d.Waiting()
			r := rand.New(rand.NewPCG(uint64(seed), uint64(cut)))
			for k := range 5 {
				picks := make([]bool, n)
				for i := range picks {
					picks[i] = k == 0 || k > 1 && r.IntN(k) > 0
				}
				p.crash(t, picks)
			}
			if t.Failed() {
				t.Fatal(fmt.Sprint("seed ", seed, ", cut ", cut))
			}
			if !p.d.Dead() {
				break
			}
		}
	}
}

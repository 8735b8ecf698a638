package sha_test

import (
	"bytes"
	"crypto/sha256"
	"encoding/hex"
	"slices"
	"strings"
	"testing"

	"lychgate/sha"
)

// known are the examples that FIPS 180-4 is published with, and hashes of
// lengths at a block's end that stand beside them.
var known = []struct {
	b    []byte
	want string
}{
	{nil, "e3b0c44298fc1c149afbf4c8996fb92427ae41e4649b934ca495991b7852b855"},
	{[]byte{}, "e3b0c44298fc1c149afbf4c8996fb92427ae41e4649b934ca495991b7852b855"},
	{[]byte("abc"), "ba7816bf8f01cfea414140de5dae2223b00361a396177a9cb410ff61f20015ad"},
	{[]byte("abcdbcdecdefdefgefghfghighijhijkijkljklmklmnlmnomnopnopq"), "248d6a61d20638b8e5c026930c3e6039a33ce45964ff2167f6ecedd419db06c1"},
	{[]byte("abcdefghbcdefghicdefghijdefghijkefghijklfghijklmghijklmnhijklmnoijklmnopjklmnopqklmnopqrlmnopqrsmnopqrstnopqrstu"), "cf5b16a778af8380036ce59e7b0492370b249b11e8f07a51afac45037afee9d1"},
	{bytes.Repeat([]byte("a"), 1000000), "cdc76e5c9914fb9281a1c7e284d73e67f1809a48a497200e046d39ccc7112cd0"},
	{[]byte{0xbd}, "68325720aabd7c82f30f554b313d0570c95accbb7dc4b5aae11204c08ffe732b"},
	{[]byte{0xc9, 0x8c, 0x8e, 0x55}, "7abc22c0ae5af26ce93dbb94433a0e0b2e119d014f8e7f65bd56c61ccccd9504"},
	{make([]byte, 55), "02779466cdec163811d078815c633f21901413081449002f24aa3e80f0b88ef7"},
	{make([]byte, 56), "d4817aa5497628e7c77e6b606107042bbba3130888c5f47a375e6179be789fbb"},
	{make([]byte, 57), "65a16cb7861335d5ace3c60718b5052e44660726da4cd13bb745381b235a1785"},
	{make([]byte, 64), "f5a5fd42d16a20302798ef6ed309979b43003d2320d9f0e8ea9831a92759fb4b"},
	{make([]byte, 1000), "541b3e9daa09b20bf85fa273e5cbd3e80185aa4ec298e765db87742b70138a53"},
	{bytes.Repeat([]byte("A"), 1000), "c2e686823489ced2017f6059b8b239318b6364f6dcd835d0a519105a1eadd6e4"},
	{bytes.Repeat([]byte("U"), 1005), "f4d62ddec0f3dd90ea1380fa16a5ff8dc4c54b21740650f24afc4120903552b0"},
	{make([]byte, 1000000), "d29751f2649b32ff572b5e0a9f541ea660a50f94ff0beedfb0b692b924cc8025"},
}

// passwords are names and words with the hash of both and the colon, worked
// out by another program.
var passwords = []struct{ name, pass, want string }{
	{"", "", "e7ac0786668e0ff0f02b62bd04f45ff636fd82db63b1104601c975dc005f3a67"},
	{"ann", "", "b3fa90e2c41ca9ba2fcd515e083fb4846c68d401d009833bc0832688b471bd08"},
	{"", "secret", "820e2cf87f9811406e95d5ca911d658b8bad13fac2193a6796785ea36a0aa080"},
	{"ann", "secret", "816f9bf0766e9b74f04ecb467e9977d9b3c0ac5af8b6373246d575de00d2c8ad"},
	{"ab", "c", "5f1390ea338444eb27117a13b752b992b7bd2a67a92fc027cb64abec2cffbdea"},
	{"\x00\xff\n", "\x80 :\r", "fe06cd36f27ac0e78cf864f1464585cb247e82d6de7271f9ef3996729c2e924f"},
}

// noise makes n bytes without a pattern, the same ones each time.
func noise(n int) []byte {
	b := make([]byte, n)
	x := uint32(1)
	for i := range b {
		x = x*1664525 + 1013904223
		b[i] = byte(x >> 24)
	}
	return b
}

// plain is what Hex must answer, by the library.
func plain(b []byte) string {
	sum := sha256.Sum256(b)
	return hex.EncodeToString(sum[:])
}

// check holds Sum and Hex of b against the library.
func check(t *testing.T, b []byte) {
	t.Helper()
	if got, want := sha.Sum(b), sha256.Sum256(b); got != want {
		t.Fatalf("Sum of %d bytes is %x, want %x", len(b), got, want)
	}
	if got, want := sha.Hex(b), plain(b); got != want {
		t.Fatalf("Hex of %d bytes is %s, want %s", len(b), got, want)
	}
}

func TestKnownSums(t *testing.T) {
	for _, c := range known {
		want, err := hex.DecodeString(c.want)
		if err != nil {
			t.Fatal(err)
		}
		if got := sha.Sum(c.b); !bytes.Equal(got[:], want) {
			t.Errorf("Sum of %d bytes is %x, want %s", len(c.b), got, c.want)
		}
	}
}

func TestKnownHexes(t *testing.T) {
	for _, c := range known {
		if got := sha.Hex(c.b); got != c.want {
			t.Errorf("Hex of %d bytes is %s, want %s", len(c.b), got, c.want)
		}
	}
}

func TestKnownPasswords(t *testing.T) {
	for _, c := range passwords {
		if got := sha.Password(c.name, c.pass); got != c.want {
			t.Errorf("Password(%q, %q) is %s, want %s", c.name, c.pass, got, c.want)
		}
	}
}

// TestLengths goes through all lengths of up to twenty blocks, so through 55,
// 56, 63, 64, 65, 119, 120, 127 and 128 bytes too, of three kinds of bytes.
func TestLengths(t *testing.T) {
	const most = 20 * 64
	for _, all := range [][]byte{noise(most), make([]byte, most), bytes.Repeat([]byte{255}, most)} {
		for n := range most + 1 {
			check(t, all[:n])
		}
	}
}

// TestLongOnes has lengths whose count of bits takes two to four bytes.
func TestLongOnes(t *testing.T) {
	all := noise(1<<24 + 64)
	for _, n := range []int{1<<13 - 1, 1 << 13, 1 << 16, 1<<21 - 9, 1<<21 - 8, 1 << 21, 1<<21 + 1, 1 << 24, 1<<24 + 55, 1<<24 + 64} {
		check(t, all[:n])
	}
}

// TestMoreThan32Bits has so many bytes that their count of bits takes a fifth
// byte.
func TestMoreThan32Bits(t *testing.T) {
	if testing.Short() {
		t.Skip("takes half a gigabyte")
	}
	b := make([]byte, 1<<29+1)
	if got, want := sha.Sum(b), sha256.Sum256(b); got != want {
		t.Errorf("Sum of %d bytes is %x, want %x", len(b), got, want)
	}
}

// TestEveryByte has each byte at each place of a block and of the one behind.
func TestEveryByte(t *testing.T) {
	for at := range 128 {
		for c := range 256 {
			b := make([]byte, at+1)
			b[at] = byte(c)
			check(t, b)
		}
	}
}

// TestEveryBitCounts turns each bit of some bytes over: their hash is another.
func TestEveryBitCounts(t *testing.T) {
	b := noise(130)
	seen := map[string]int{sha.Hex(b): -1}
	for k := range 8 * len(b) {
		b[k/8] ^= 1 << (k % 8)
		text := sha.Hex(b)
		if other, ok := seen[text]; ok {
			t.Errorf("bits %d and %d leave the same hash", other, k)
		}
		seen[text] = k
		b[k/8] ^= 1 << (k % 8)
	}
}

// TestHexDigits: each half byte of Sum at each place is one digit of Hex.
func TestHexDigits(t *testing.T) {
	all, seen := noise(500), make(map[[2]int]struct{})
	for n := range all {
		sum, text := sha.Sum(all[:n]), sha.Hex(all[:n])
		if len(text) != 64 || strings.Trim(text, "0123456789abcdef") != "" {
			t.Fatalf("Hex of %d bytes is %q", n, text)
		}
		for i, c := range sum {
			if text[2*i:2*i+2] != hex.EncodeToString([]byte{c}) {
				t.Errorf("byte %d of Sum of %d bytes is %02x, in Hex %s", i, n, c, text[2*i:2*i+2])
			}
			seen[[2]int{2 * i, int(c >> 4)}] = struct{}{}
			seen[[2]int{2*i + 1, int(c & 15)}] = struct{}{}
		}
	}
	if len(seen) != 64*16 {
		t.Errorf("only %d of the digits and places were seen", len(seen))
	}
}

func TestPasswords(t *testing.T) {
	words := []string{
		"", ":", "::", "a", "b", "ab", "A", "ann", "Ann", "ann:", ":ann", "an:n", "secret", " secret", "secret ",
		"\x00", "\x00\x00", "\n", "\r\n", "\x7f", "\x80", "\xff", "\xff\xfe", "\xc3", "é", "日本", "%s", "\\",
		strings.Repeat("x", 53), strings.Repeat("x", 54), strings.Repeat("x", 55), strings.Repeat("x", 62),
		strings.Repeat("x", 63), strings.Repeat("x", 64), strings.Repeat(":", 120), string(noise(5000)),
	}
	for c := range 256 {
		words = append(words, string([]byte{byte(c)}))
	}
	for _, name := range words {
		for _, pass := range words {
			if got, want := sha.Password(name, pass), plain([]byte(name+":"+pass)); got != want {
				t.Errorf("Password(%q, %q) is %s, want %s", name, pass, got, want)
			}
		}
	}
}

// TestColons: the name, a colon and the word are one row of bytes, so that
// where one ends is to be seen only by the colon.
func TestColons(t *testing.T) {
	if sha.Password("a:b", "c") != sha.Password("a", "b:c") {
		t.Error("a colon of the name is another than one of the word")
	}
	if sha.Password("", ":") != sha.Password(":", "") || sha.Password("", ":") != sha.Hex([]byte("::")) {
		t.Error("two colons are others than two colons")
	}
	if sha.Password("ab", "c") == sha.Password("a", "bc") || sha.Password("ab", "c") == sha.Password("c", "ab") {
		t.Error("other names and words have the same hash")
	}
	if sha.Password("ab", "c") == sha.Hex([]byte("abc")) || sha.Password("", "") == sha.Hex(nil) {
		t.Error("there is no colon")
	}
}

// TestArgumentsStay hands in pieces with spare room, in which the end of a
// message could be laid by mistake.
func TestArgumentsStay(t *testing.T) {
	for _, n := range []int{0, 1, 55, 56, 63, 64, 65, 119, 120, 127, 128, 700} {
		room := noise(n + 300)
		given, want := slices.Clone(room), sha256.Sum256(room[100:100+n])
		piece := room[100 : 100+n]
		for range 2 {
			if got := sha.Sum(piece); got != want {
				t.Errorf("Sum of %d bytes is %x, want %x", n, got, want)
			}
			if got := sha.Hex(piece); got != hex.EncodeToString(want[:]) {
				t.Errorf("Hex of %d bytes is %s, want %x", n, got, want)
			}
		}
		if !bytes.Equal(room, given) {
			t.Errorf("a call for %d bytes changed bytes", n)
		}
	}
}

// TestNothingIsKept changes what was handed in and what was answered.
func TestNothingIsKept(t *testing.T) {
	for _, n := range []int{1, 63, 64, 200} {
		b := noise(n)
		want := sha256.Sum256(b)
		sum, text := sha.Sum(b), sha.Hex(b)
		clear(b)
		if got := sha.Sum(b); got != sha256.Sum256(b) || sum != want {
			t.Errorf("Sum of %d changed bytes is %x", n, got)
		}
		if got := sha.Hex(b); got != plain(b) || text != hex.EncodeToString(want[:]) {
			t.Errorf("Hex of %d changed bytes is %s", n, got)
		}
		clear(sum[:])
		if sha.Sum(noise(n)) != want {
			t.Errorf("Sum of %d bytes hangs on an answer that was changed", n)
		}
	}
	name := []byte("ann")
	text := sha.Password(string(name), "secret")
	clear(name)
	if sha.Password("bob", "other") == text || sha.Password("ann", "secret") != text {
		t.Error("Password hangs on a call ahead of it")
	}
}

func FuzzAgainstLibrary(f *testing.F) {
	f.Add([]byte("abc"), 1)
	f.Add([]byte{}, 0)
	f.Add(make([]byte, 119), 64)
	f.Fuzz(func(t *testing.T, b []byte, cut int) {
		check(t, b)
		cut = max(0, min(cut, len(b)))
		name, pass := string(b[:cut]), string(b[cut:])
		if got, want := sha.Password(name, pass), plain([]byte(name+":"+pass)); got != want {
			t.Errorf("Password(%q, %q) is %s, want %s", name, pass, got, want)
		}
	})
}

package tests

import (
	"crypto/hmac"
	"crypto/sha256"
	"encoding/hex"
	"math"
	"math/rand"
	"strings"
	"testing"

	"loop.example/g00550/impl"
)

func wantDigest(text string) string {
	sum := sha256.Sum256([]byte(text))
	return string(sum[:])
}

func wantMac(key string, text string) string {
	h := hmac.New(sha256.New, []byte(key))
	h.Write([]byte(text))
	return string(h.Sum(nil))
}

// macOfDigests makes a mac as the promise says it, out of Digest alone; the text must leave room for the 64 bytes ahead of it.
func macOfDigests(key string, text string) string {
	if len(key) > 64 {
		key = impl.Digest(key)
	}
	key += strings.Repeat("\x00", 64-len(key))
	inner, outer := []byte(key), []byte(key)
	for i := range 64 {
		inner[i] ^= 0x36
		outer[i] ^= 0x5c
	}
	return impl.Digest(string(outer) + impl.Digest(string(inner)+text))
}

func sameDigest(t *testing.T, what string, got string, want string) {
	t.Helper()
	if got != want {
		t.Errorf("%s: got %x, want %x", what, got, want)
	}
}

func unhex(t *testing.T, text string) string {
	t.Helper()
	b, err := hex.DecodeString(text)
	if err != nil {
		t.Fatal(err)
	}
	return string(b)
}

func TestDigestKnown(t *testing.T) {
	known := []struct{ text, want string }{
		{"", "e3b0c44298fc1c149afbf4c8996fb92427ae41e4649b934ca495991b7852b855"},
		{"abc", "ba7816bf8f01cfea414140de5dae2223b00361a396177a9cb410ff61f20015ad"},
		{"abcdbcdecdefdefgefghfghighijhijkijkljklmklmnlmnomnopnopq",
			"248d6a61d20638b8e5c026930c3e6039a33ce45964ff2167f6ecedd419db06c1"},
	}
	for _, k := range known {
		sameDigest(t, "Digest "+k.text, impl.Digest(k.text), unhex(t, k.want))
	}
}

func TestDigestOfEachLength(t *testing.T) {
	draw := rand.New(rand.NewSource(3))
	for size := range 330 {
		text := randomText(draw, size)
		sameDigest(t, "Digest of random bytes", impl.Digest(text), wantDigest(text))
	}
	for _, size := range []int{55, 56, 63, 64, 65, 119, 120, 127, 128, 4096, 7999, 8000} {
		for _, fill := range []string{"\x00", "\xff", "\x80", "a"} {
			text := strings.Repeat(fill, size)
			sameDigest(t, "Digest of one byte over and over", impl.Digest(text), wantDigest(text))
		}
	}
}

func TestDigestTooLong(t *testing.T) {
	for _, more := range []int{1, 2, 64, 1000} {
		sameDigest(t, "Digest of a text too long", impl.Digest(strings.Repeat("a", impl.MaxBytes+more)), "")
	}
}

func TestMacKnown(t *testing.T) {
	known := []struct{ key, text, want string }{
		{strings.Repeat("\x0b", 20), "Hi There", "b0344c61d8db38535ca8afceaf0bf12b881dc200c9833da726e9376c2e32cff7"},
		{"Jefe", "what do ya want for nothing?", "5bdcc146bf60754e6a042426089575c75a003f089d2739839dec58b964ec3843"},
		{strings.Repeat("\xaa", 131), "Test Using Larger Than Block-Size Key - Hash Key First",
			"60e431591ee0b67f0d8a26aacbf5b77f8e0bc6213728c5140546040f0ee37f54"},
		{"", "", "b613679a0814d9ec772f95d778c35fc5ff1697c493715653c6c712144292c5ad"},
	}
	for _, k := range known {
		sameDigest(t, "Mac of "+k.text, impl.Mac(k.key, k.text), unhex(t, k.want))
	}
}

// Promise 3, with the library's own mac beside it.
func TestMacIsMadeOfDigests(t *testing.T) {
	draw := rand.New(rand.NewSource(4))
	for _, keySize := range []int{0, 1, 31, 32, 33, 63, 64, 65, 66, 127, 128, 129, 7999, 8000} {
		for _, textSize := range []int{0, 1, 55, 56, 63, 64, 65, 119, 1000, 7936} {
			key, text := randomText(draw, keySize), randomText(draw, textSize)
			got := impl.Mac(key, text)
			sameDigest(t, "Mac against digests", got, macOfDigests(key, text))
			sameDigest(t, "Mac against the library", got, wantMac(key, text))
		}
	}
}

// The inner text of a mac is longer than what Digest itself takes.
func TestMacOfLongTexts(t *testing.T) {
	draw := rand.New(rand.NewSource(5))
	for _, size := range []int{7937, 7999, 8000} {
		text := randomText(draw, size)
		for _, keySize := range []int{0, 63, 64, 65, 8000} {
			key := randomText(draw, keySize)
			sameDigest(t, "Mac of a long text", impl.Mac(key, text), wantMac(key, text))
		}
	}
}

// A key of more than 64 bytes stands for its digest, one of 64 for itself.
func TestMacKeyWidth(t *testing.T) {
	long := strings.Repeat("k", 65)
	sameDigest(t, "a key of 65", impl.Mac(long, "text"), impl.Mac(impl.Digest(long), "text"))
	whole := strings.Repeat("k", 64)
	if impl.Mac(whole, "text") == impl.Mac(impl.Digest(whole), "text") {
		t.Error("a key of 64 bytes was digested")
	}
	sameDigest(t, "a key filled up", impl.Mac("key", "text"), impl.Mac("key\x00\x00", "text"))
}

func TestMacTooLong(t *testing.T) {
	long, full := strings.Repeat("a", impl.MaxBytes+1), strings.Repeat("a", impl.MaxBytes)
	sameDigest(t, "Mac with a key too long", impl.Mac(long, "text"), "")
	sameDigest(t, "Mac with a text too long", impl.Mac("key", long), "")
	sameDigest(t, "Mac with both too long", impl.Mac(long, long), "")
	sameDigest(t, "Mac with a full key and a text too long", impl.Mac(full, long), "")
	sameDigest(t, "Mac with both full", impl.Mac(full, full), wantMac(full, full))
}

func TestStretchStepByStep(t *testing.T) {
	draw := rand.New(rand.NewSource(6))
	for _, size := range []int{0, 1, 63, 64, 65, 8000} {
		pass := randomText(draw, size)
		want := "salt"
		for rounds := int64(1); rounds <= 100; rounds++ {
			want = wantMac(pass, want)
			if rounds <= 3 || rounds >= 98 || size < 100 {
				sameDigest(t, "Stretch", impl.Stretch(pass, rounds), want)
			}
		}
	}
}

func TestStretchWrong(t *testing.T) {
	for _, rounds := range []int64{0, -1, -100, 101, 102, 1000, math.MinInt64, math.MaxInt64, 1<<32 + 1} {
		sameDigest(t, "Stretch of rounds that may not be", impl.Stretch("pass", rounds), "")
	}
	long := strings.Repeat("a", impl.MaxBytes+1)
	for _, rounds := range []int64{0, 1, 2, 100, 101} {
		sameDigest(t, "Stretch of a pass too long", impl.Stretch(long, rounds), "")
	}
}

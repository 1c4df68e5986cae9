package wire_test

import (
	"strings"
	"testing"

	"burin/api"
	"burin/wire"
)

// with returns s with another byte at i.
func with(s string, i int, c byte) string {
	b := []byte(s)
	b[i] = c
	return string(b)
}

// The change of any single byte is detected.
func TestEverySingleByteChanged(t *testing.T) {
	r := random(4)
	l := wellFormed()
	for range 300 {
		l = append(l, anyProg(r))
	}
	for _, p := range l {
		s := modelBytes(p)
		if len(s) > 1000 {
			continue
		}
		for i := range len(s) {
			for c := range 256 {
				decodes(t, with(s, i, byte(c)), p, byte(c) == s[i])
			}
		}
	}
}

func TestSingleBytesOfLongProgramsChanged(t *testing.T) {
	r := random(5)
	for _, p := range []code{longProg(r, 4000), of(0, 2, many(match(), 4000)...), of(3999, 64, many(bytes(255, 255, 3999), 4000)...)} {
		s := modelBytes(p)
		for i := range len(s) {
			if i < 20 || i > len(s)-20 || r.IntN(5) == 0 {
				refused(t, with(s, i, s[i]^byte(1+r.IntN(255))))
				refused(t, with(s, i, s[i]^byte(1<<r.IntN(8))))
			}
		}
	}
}

// Changes that leave the exclusive or as it is: what results is another program, or none.
func TestTwoBytesChanged(t *testing.T) {
	r := random(6)
	l := wellFormed()
	for range 60 {
		l = append(l, anyProg(r))
	}
	for _, p := range l {
		s := modelBytes(p)
		if len(s) > 1000 {
			continue
		}
		for i := range len(s) {
			for j := range i {
				for range 8 {
					c := byte(1 + r.IntN(255))
					if r.IntN(2) == 0 {
						c = 1 << r.IntN(8)
					}
					changed := with(with(s, i, s[i]^c), j, s[j]^c)
					likeTheModel(t, changed)
					if q, e := wire.Decode(changed); e == api.OK && equal(p, q) {
						t.Errorf("%s and %s are decoded as the same program", cut(s), cut(changed))
					}
				}
				likeTheModel(t, with(with(s, i, s[j]), j, s[i]))
			}
		}
	}
}

// Encodings with a byte replaced, left out, repeated or added, and with the last byte made right again.
func TestSpoiledEncodings(t *testing.T) {
	r := random(7)
	l := []code{}
	for _, x := range written {
		l = append(l, x.p)
	}
	for range 100 {
		l = append(l, anyProg(r))
	}
	for _, p := range l {
		s := modelBytes(p)
		s = s[:len(s)-1]
		for i := range len(s) + 1 {
			for c := range 256 {
				one := string([]byte{byte(c)})
				likeTheModel(t, check(s[:i]+one+s[i:]))
				if i < len(s) {
					likeTheModel(t, check(s[:i]+one+s[i+1:]))
				}
			}
			for j := i; j <= len(s); j++ {
				likeTheModel(t, check(s[:i]+s[j:]))
				likeTheModel(t, check(s[:j]+s[i:]))
			}
		}
	}
}

// All short strings of the bytes that matter, behind each beginning of a program.
func TestStringsOfPieces(t *testing.T) {
	pieces := []string{"\x00", "\x01", "\x02", "\x03", "\x04", "\x05", "\x06", "\x07", "\x40", "\x7f", "\x80", "\x9f", "\xff"}
	for n := range 5 {
		every(pieces, n, "", func(s string) {
			for _, ahead := range []string{"", "\x00\x02", "\x00\x02\x01", "\x00\x02\x02", "\x00\x02\x01\x01", "\x00\x02\x01\x02", "\x00\x02\x01\x03", "\x00\x02\x02\x04\x01"} {
				likeTheModel(t, seal(ahead+s))
			}
			likeTheModel(t, s)
			likeTheModel(t, check(s))
			likeTheModel(t, "BR1"+s)
			likeTheModel(t, seal(s+"\x05"))
		})
	}
}

// Whatever is decoded is encoded as what it was decoded from.
func TestEncodeAndDecodeInBothDirections(t *testing.T) {
	r := random(8)
	pieces := []string{"\x01\x61\x63\x01", "\x02\x03\x00", "\x03\x02\x05", "\x04\x05\x01", "\x05", "\x06", "\x05", "\x01", "\x02\xAC\x02", "\x00", "\x80", "\x9F\x1F", "\xC3\xA9", "\xff", "\x01\x00\xFF\x01\x00"}
	found := 0
	for range 300000 {
		n := r.IntN(6)
		s := varints(r.IntN(4), r.IntN(70), n)
		for range n {
			s += pieces[r.IntN(len(pieces))]
		}
		s = seal(s)
		if r.IntN(10) == 0 {
			i := r.IntN(len(s))
			s = with(s, i, s[i]^byte(r.IntN(256)))
		}
		likeTheModel(t, s)
		if p, e := wire.Decode(s); e == api.OK {
			encodes(t, p, s, true)
			found++
		}
	}
	if found < 10000 {
		t.Errorf("only %d of the strings are encodings", found)
	}
}

// Strings of any bytes.
func TestRandomStrings(t *testing.T) {
	r := random(9)
	for range 300000 {
		b := make([]byte, r.IntN(14))
		for i := range b {
			b[i] = byte(r.IntN(256))
			if r.IntN(3) > 0 {
				b[i] %= 8
			}
		}
		s := string(b)
		for _, x := range []string{s, "BR1" + s, check(s), seal(s), seal("\x00\x02\x01" + s), seal("\x00\x02\x02" + s)} {
			likeTheModel(t, x)
		}
	}
}

// Whatever is much too long is refused all the same.
func TestLongStrings(t *testing.T) {
	for _, s := range []string{"\x00", "\x01", "\x05", "\x06", "\x80", "\xff", "BR1", "\x02\x00\x00", "\x01\x00\x00\x00", " "} {
		long := strings.Repeat(s, 1<<22/len(s))
		for _, ahead := range []string{"", "\x00", "\x00\x02", "\x00\x02\x01", "\x00\x02\xA0\x1F", "\x00\x02\xA1\x1F", "\x00\x02" + varints(1<<22), "\x00\x02" + varints(1<<22/len(s)), "\x00\x02\x01\x05", "\x00\x02\x01\x02"} {
			refused(t, ahead+long)
			refused(t, "BR1"+ahead+long)
			refused(t, seal(ahead+long))
		}
	}
}

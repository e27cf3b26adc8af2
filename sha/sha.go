// Package sha is layer 2: digests of bytes, by SHA-256.
package sha

import (
	"math"
	"math/bits"

	"sporran/api"
	"sporran/pack"
)

const (
	stateWords = 8
	rounds     = 64
	wordBytes  = 4
	chunkBytes = 64
	countBytes = 8 // the last bytes of the last chunk: how many bits there are
	lastPrime  = 311
)

// Sum gives the digest of bytes.
func Sum(b []byte) api.Digest {
	state, k := numbers()
	last := filledUp(b)
	for ; len(b) >= chunkBytes; b = b[chunkBytes:] {
		state = mixed(state, &k, b[:chunkBytes])
	}
	for ; len(last) > 0; last = last[chunkBytes:] {
		state = mixed(state, &k, last[:chunkBytes])
	}
	var d api.Digest
	for i, word := range state {
		for j := range wordBytes {
			d[wordBytes*i+j] = byte(word >> (24 - 8*j))
		}
	}
	return d
}

// Tagged gives the digest of rows of bytes, for a use: other uses, or rows cut otherwise, are other bytes.
func Tagged(use byte, rows ...[]byte) api.Digest {
	b := []byte{use}
	for _, row := range rows {
		b = pack.Bytes(b, row)
	}
	return Sum(b)
}

// filledUp gives what is digested behind the whole chunks of b: one chunk, or two.
func filledUp(b []byte) []byte {
	count := uint64(len(b)) * 8
	last := make([]byte, 0, 2*chunkBytes)
	last = append(last, b[len(b)-len(b)%chunkBytes:]...)
	last = append(last, 128)
	for len(last)%chunkBytes != chunkBytes-countBytes {
		last = append(last, 0)
	}
	for shift := 56; shift >= 0; shift -= 8 {
		last = append(last, byte(count>>shift))
	}
	return last
}

// mixed gives the state behind one chunk more.
func mixed(state [stateWords]uint32, k *[rounds]uint32, chunk []byte) [stateWords]uint32 {
	w := schedule(chunk)
	v := state
	for t := range rounds {
		a, b, c, e, f, g := v[0], v[1], v[2], v[4], v[5], v[6]
		x := v[7] + (rot(e, 6) ^ rot(e, 11) ^ rot(e, 25)) + (e&f ^ ^e&g) + k[t] + w[t]
		y := (rot(a, 2) ^ rot(a, 13) ^ rot(a, 22)) + (a&b ^ a&c ^ b&c)
		copy(v[1:], v[:stateWords-1])
		v[4] += x
		v[0] = x + y
	}
	for i := range v {
		v[i] += state[i]
	}
	return v
}

// schedule gives the words that the rounds take of a chunk, one each.
func schedule(chunk []byte) [rounds]uint32 {
	var w [rounds]uint32
	for i, b := range chunk {
		w[i/wordBytes] = w[i/wordBytes]<<8 | uint32(b)
	}
	for t := chunkBytes / wordBytes; t < rounds; t++ {
		p, q := w[t-2], w[t-15]
		w[t] = (rot(p, 17) ^ rot(p, 19) ^ p>>10) + w[t-7] + (rot(q, 7) ^ rot(q, 18) ^ q>>3) + w[t-16]
	}
	return w
}

// rot turns x to the right by n bits.
func rot(x uint32, n int) uint32 {
	return bits.RotateLeft32(x, -n)
}

// numbers gives the numbers of the beginning, and those of the rounds.
func numbers() (h [stateWords]uint32, k [rounds]uint32) {
	next := primes()
	for i := range k {
		p := float64(next())
		k[i] = behindPoint(math.Cbrt(p))
		if i < stateWords {
			h[i] = behindPoint(math.Sqrt(p))
		}
	}
	return h, k
}

// behindPoint gives the first 32 bits behind the point. The roots are below 32, so that a float64 has at least 48 bits there: what it rounds off lies far behind these.
func behindPoint(root float64) uint32 {
	return uint32((root - math.Floor(root)) * (1 << 32))
}

// primes gives a function that tells the primes from 2 to lastPrime, one each time.
func primes() func() int {
	var struck [lastPrime + 1]bool
	at := 1
	return func() int {
		for at++; struck[at]; at++ {
		}
		for multiple := at * at; multiple <= lastPrime; multiple += at {
			struck[multiple] = true
		}
		return at
	}
}

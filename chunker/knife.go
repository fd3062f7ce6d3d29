package chunker

import (
	"bytes"

	"hayloft/gear"
)

// knife: what cuts, by a rule that is right. It stands in one chunk, whose bytes wait till its end is sure.
type knife struct {
	*gear.Gear
	rule Rule
	mask uint64
	hash uint64 // of what waits, so that no byte is hashed twice
	wait []byte
}

func newKnife(r Rule) knife {
	return knife{Gear: gear.New(r.Seed), rule: r, mask: gear.Mask(r.Avg)}
}

// feed tells each chunk whose end is sure by the bytes up to those of b, and what then waits too, if over says that no byte comes behind.
func (k *knife) feed(b []byte, over func() bool, tell func(chunk []byte)) {
	for _, c := range b {
		k.hash = k.Roll(k.hash, c)
		k.wait = append(k.wait, c)
		if k.atEnd() {
			tell(k.give())
		}
	}
	if len(k.wait) > 0 && over() {
		tell(k.give())
	}
}

// atEnd: whether a chunk ends behind what waits, whatever comes.
func (k *knife) atEnd() bool {
	n := len(k.wait)
	return n == k.rule.Max || n >= k.rule.Min && k.hash&k.mask == 0
}

// give: what waits, as a chunk; the next one begins.
func (k *knife) give() []byte {
	chunk := bytes.Clone(k.wait)
	k.wait, k.hash = k.wait[:0], 0
	return chunk
}

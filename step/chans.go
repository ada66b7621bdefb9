package step

import "scarab/api"

// sendable tells whether a send on a channel of a capacity is ready.
func sendable(c api.Chan, room int) bool {
	return c.Closed || c.Len < room || room == 0 && c.Offer == api.OfferNone
}

// receivable tells whether a receive from a channel is ready.
func receivable(c api.Chan) bool {
	return c.Len > 0 || c.Closed || c.Offer == api.OfferThere
}

// push is a channel with a value more, behind all that is buffered.
func push(c api.Chan, x int64) api.Chan {
	c.Buf[c.Len] = x
	c.Len++
	return c
}

// pull is a channel out of which one value was received, that value, and whether there was one (else it is closed).
func pull(c api.Chan) (api.Chan, int64, bool) {
	switch {
	case c.Len > 0:
		x := c.Buf[0]
		copy(c.Buf[:], c.Buf[1:c.Len])
		c.Len--
		c.Buf[c.Len] = 0
		return c, x, true
	case c.Offer == api.OfferThere:
		x := c.Val
		c.Offer, c.Val = api.OfferTaken, 0
		return c, x, true
	}
	return c, 0, false
}

// shut is a channel, closed: an offer that nobody took is lost.
func shut(c api.Chan) api.Chan {
	c.Closed = true
	if c.Offer == api.OfferThere {
		c.Offer, c.Val = api.OfferLost, 0
	}
	return c
}

// cleared is a channel without its offer.
func cleared(c api.Chan) api.Chan {
	c.Offer, c.From, c.Val = api.OfferNone, 0, 0
	return c
}

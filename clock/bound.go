package clock

import (
	"corncrib/api"
	"corncrib/record"
)

// take lets a bound be in the log, on the device; it is the clock's, then.
func (c *Clock) take(bound int) api.Errno {
	text, e := record.Encode(api.Record{Kind: api.RUpto, Ts: bound})
	if e != api.OK {
		return e
	}
	if e := c.write(text); e != api.OK {
		return e
	}
	c.bound = bound
	return api.OK
}

// write lets a text be in the log, on the device; if there is no room for it, the texts ahead are not needed any more.
func (c *Clock) write(text string) api.Errno {
	e := c.Append(text)
	if e == api.ErrSpace {
		return c.Restart(text)
	}
	if e != api.OK {
		return e
	}
	return c.Sync()
}

// lastBound answers the last of the bounds that texts tell, 0, if there is none; false, if one is no bound, or not above the one ahead.
func lastBound(texts []string) (int, bool) {
	bound := 0
	for _, text := range texts {
		r, e := record.Decode(text)
		if e != api.OK || r.Kind != api.RUpto || r.Ts <= bound {
			return 0, false
		}
		bound = r.Ts
	}
	return bound, true
}

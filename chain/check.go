package chain

import "corncrib/api"

// longest is how many bytes a shard may have: those of the longest object and of its length, where one shard has all.
const longest = api.MaxObject + 4

// fault answers what is wrong with a version, whichever is ahead of it.
func fault(v api.Version) api.Errno {
	if v.Ts < 1 || v.Ts > api.MaxStamp {
		return api.ErrRange
	}
	if len(v.Shard) > longest {
		return api.ErrLong
	}
	if v.Dead && v.Shard != "" {
		return api.ErrShape
	}
	return api.OK
}

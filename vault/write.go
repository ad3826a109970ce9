package vault

import (
	"corncrib/api"
	"corncrib/record"
)

// write lets a record be in the log, on the device.
func (v *Vault) write(r api.Record) api.Errno {
	text, e := record.Encode(r)
	if e != api.OK {
		return e
	}
	if e := v.add(text); e != api.OK {
		return e
	}
	return v.Sync()
}

// add appends a text; if there is no room for it, what the shelf does not need any more is taken out of the log ahead of that.
func (v *Vault) add(text string) api.Errno {
	e := v.Append(text)
	if e != api.ErrSpace {
		return e
	}
	if e := v.restart(v.shelf.Records()); e != api.OK {
		return e
	}
	return v.Append(text)
}

// restart lets the log have these records alone.
func (v *Vault) restart(l []api.Record) api.Errno {
	texts, e := encoded(l)
	if e != api.OK {
		return e
	}
	return v.Restart(texts...)
}

// encoded answers the bytes of records.
func encoded(l []api.Record) ([]string, api.Errno) {
	var texts []string
	for _, r := range l {
		text, e := record.Encode(r)
		if e != api.OK {
			return nil, e
		}
		texts = append(texts, text)
	}
	return texts, api.OK
}

// decoded answers the records of these bytes.
func decoded(texts []string) ([]api.Record, api.Errno) {
	var l []api.Record
	for _, text := range texts {
		r, e := record.Decode(text)
		if e != api.OK {
			return nil, e
		}
		l = append(l, r)
	}
	return l, api.OK
}

package cursor

import "cardindex/api"

// way finds an entry of a cursor's tree by a key.
type way func(c *Cursor, key []byte) ([]byte, []byte, bool)

// ways is how a cursor is put, by its Seek: each way finds the entry that stands so to a key.
func ways() map[api.Seek]way {
	return map[api.Seek]way{
		api.SeekGE: func(c *Cursor, key []byte) ([]byte, []byte, bool) {
			return c.store.After(c.tree, key, true)
		},
		api.SeekGT: func(c *Cursor, key []byte) ([]byte, []byte, bool) {
			return c.store.After(c.tree, key, false)
		},
		api.SeekLE: func(c *Cursor, key []byte) ([]byte, []byte, bool) {
			return c.store.Before(c.tree, key, true)
		},
		api.SeekLT: func(c *Cursor, key []byte) ([]byte, []byte, bool) {
			return c.store.Before(c.tree, key, false)
		},
	}
}

// Seek puts it at the entry that stands so to key.
func (c *Cursor) Seek(how api.Seek, key []byte) bool {
	if !c.isMade() {
		return false
	}
	find, known := ways()[how]
	if !known {
		return c.put(nil, false)
	}
	found, _, there := find(c, key)
	return c.put(found, there)
}

// Rewind puts it at the first entry: no key is less than that of no bytes.
func (c *Cursor) Rewind() bool {
	return c.Seek(api.SeekGE, nil)
}

// Last puts it at the last entry.
func (c *Cursor) Last() bool {
	if !c.isMade() {
		return false
	}
	found, _, there := c.store.Last(c.tree)
	return c.put(found, there)
}

// Next puts it at the first entry behind where it is.
func (c *Cursor) Next() bool {
	return c.isSet() && c.Seek(api.SeekGT, c.key)
}

// Prev puts it at the last entry ahead of where it is.
func (c *Cursor) Prev() bool {
	return c.isSet() && c.Seek(api.SeekLT, c.key)
}

// put puts it at key, which is its own from now on, if that is there; else nowhere.
func (c *Cursor) put(key []byte, there bool) bool {
	c.key, c.set = key, there
	return there
}

package net

import "corncrib/api"

// address is one that letters go to, or none.
type address int

// gets tells whether a letter goes to it.
func (a address) gets(l api.Letter) bool { return l.To == int(a) }

// places answers the places of the letters that fit, from the front on.
func (n *Net) places(fits func(api.Letter) bool) []int {
	var l []int
	for at, x := range n.letters {
		if fits(x) {
			l = append(l, at)
		}
	}
	return l
}

// place answers which place a pick stands for, in a net that has letters.
func (n *Net) place(pick int) int {
	at := pick % n.Len()
	if at < 0 {
		at += n.Len() // of a pick below 0 the rest is below 0, too
	}
	return at
}

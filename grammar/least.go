package grammar

import (
	"strings"

	"orrery/api"
)

// offer: the least text of terminals that is known of a symbol so far, a byte for each.
type offer struct {
	text    string
	there   bool
	settled bool // no rule can tell a lesser one
}

// Least: P1306.
func (g *Grammar) Least(symbol int) ([]int, bool) {
	if !g.has(symbol) {
		return nil, false
	}
	text, found := g.leastText(symbol)
	if !found {
		return nil, false
	}
	list := make([]int, len(text))
	for i := range list {
		list[i] = int(text[i])
	}
	return list, true
}

// leastText settles symbols from the least text on: no rule makes a text that is less than one of which it is made, so that the least one that is offered stays.
func (g *Grammar) leastText(wanted int) (string, bool) {
	offers := make([]offer, len(g.names))
	for symbol := range g.terminals {
		offers[symbol] = offer{text: string([]byte{byte(symbol)}), there: true, settled: true}
	}
	asked := make([]bool, len(g.rules))
settling:
	for !offers[wanted].settled {
		for n, r := range g.rules {
			if !asked[n] && allSettled(r.Right, offers) {
				asked[n] = true
				offerText(&offers[r.Left], r.Right, offers)
			}
		}
		next := leastOpen(offers)
		if next < 0 {
			break settling
		}
		offers[next].settled = true
	}
	return offers[wanted].text, offers[wanted].settled
}

func allSettled(symbols []int, offers []offer) bool {
	for _, symbol := range symbols {
		if !offers[symbol].settled {
			return false
		}
	}
	return true
}

// offerText: the texts of the symbols, one behind the other, if they are not too long and less than what was offered.
func offerText(to *offer, symbols []int, offers []offer) {
	length := 0
	for _, symbol := range symbols {
		length += len(offers[symbol].text)
		if length > api.MaxText {
			return
		}
	}
	var b strings.Builder
	b.Grow(length)
	for _, symbol := range symbols {
		b.WriteString(offers[symbol].text)
	}
	if !to.there || isLess(b.String(), to.text) {
		to.text, to.there = b.String(), true
	}
}

// leastOpen: the symbol with the least text of those that are not settled; -1, if none has one.
func leastOpen(offers []offer) int {
	least := -1
	for symbol, o := range offers {
		if !o.there || o.settled {
			continue
		}
		if least < 0 || isLess(o.text, offers[least].text) {
			least = symbol
		}
	}
	return least
}

// isLess: the shorter text is, and of two of one length the one with the lesser number where they first differ.
func isLess(a, b string) bool {
	if len(a) != len(b) {
		return len(a) < len(b)
	}
	return a < b
}

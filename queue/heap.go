package queue

import "ganglion/api"

// A heap has spots, none of which comes ahead, as first tells, of the one above it (at about half its place): so the one at place 0 comes first.
type heap struct {
	spots []api.Spot
	first func(a, b api.Spot) bool
}

// put puts s in.
func (h *heap) put(s api.Spot) {
	h.spots = append(h.spots, s)
	h.rise(len(h.spots) - 1)
}

// top is the spot that comes first, if there is one.
func (h *heap) top() (api.Spot, bool) {
	if len(h.spots) == 0 {
		return api.Spot{}, false
	}
	return h.spots[0], true
}

// take takes out the spot that comes first; there must be one.
func (h *heap) take() {
	last := len(h.spots) - 1
	h.spots[0] = h.spots[last]
	h.spots = h.spots[:last]
	h.sink(0)
}

// replace takes out the spot that comes first, and puts s in; there must be one.
func (h *heap) replace(s api.Spot) {
	h.spots[0] = s
	h.sink(0)
}

// rise moves the spot at place i up, till none above comes behind it.
func (h *heap) rise(i int) {
	for i > 0 {
		above := (i - 1) / 2
		if !h.first(h.spots[i], h.spots[above]) {
			return
		}
		h.swap(i, above)
		i = above
	}
}

// sink moves the spot at place i down, till none below comes ahead of it.
func (h *heap) sink(i int) {
	for {
		below := 2*i + 1
		if below >= len(h.spots) {
			return
		}
		if next := below + 1; next < len(h.spots) && h.first(h.spots[next], h.spots[below]) {
			below = next
		}
		if !h.first(h.spots[below], h.spots[i]) {
			return
		}
		h.swap(i, below)
		i = below
	}
}

// swap lets the spots at two places change them.
func (h *heap) swap(i, k int) {
	h.spots[i], h.spots[k] = h.spots[k], h.spots[i]
}

package linkmap

// queue is images as a heap of the library has them, the lowest one first.
type queue []image

func (q queue) Len() int           { return len(q) }
func (q queue) Less(i, j int) bool { return q[i].Lo < q[j].Lo }
func (q queue) Swap(i, j int)      { q[i], q[j] = q[j], q[i] }

// Push puts an image behind the others.
func (q *queue) Push(x any) {
	if im, ok := x.(image); ok {
		*q = append(*q, im)
	}
}

// Pop takes the image behind the others.
func (q *queue) Pop() any {
	last := len(*q) - 1
	im := (*q)[last]
	*q = (*q)[:last]
	return im
}

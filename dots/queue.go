package dots

// queue is a heap of dots with the least one on top, as container/heap takes it.
type queue []uint64

func (q queue) Len() int { return len(q) }

func (q queue) Less(i, j int) bool { return q[i] < q[j] }

func (q queue) Swap(i, j int) { q[i], q[j] = q[j], q[i] }

func (q *queue) Push(dot any) { *q = append(*q, dot.(uint64)) }

func (q *queue) Pop() any {
	last := len(*q) - 1
	dot := (*q)[last]
	*q = (*q)[:last]
	return dot
}

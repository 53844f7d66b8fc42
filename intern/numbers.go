package intern

import "container/heap"

// free is a heap of numbers, the smallest one on top; its methods are those that container/heap asks for.
type free []int

func (f free) Len() int { return len(f) }

func (f free) Less(i, j int) bool { return f[i] < f[j] }

func (f free) Swap(i, j int) { f[i], f[j] = f[j], f[i] }

func (f *free) Push(x any) { *f = append(*f, x.(int)) }

func (f *free) Pop() any {
	last := f.Len() - 1
	n := (*f)[last]
	*f = (*f)[:last]
	return n
}

// numbers hands out the smallest number that is not in use: all numbers from next on are not, and of those below it the free ones.
type numbers struct {
	free
	next int
}

// take hands out a number.
func (n *numbers) take() int {
	if n.Len() > 0 {
		return heap.Pop(n).(int)
	}
	n.next++
	return n.next - 1
}

// give takes back a number that was handed out.
func (n *numbers) give(number int) { heap.Push(n, number) }

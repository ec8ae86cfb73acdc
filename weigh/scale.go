package weigh

// Scale is the weight and the length of what was written so far; its zero value
// is a scale for the empty text.
type Scale struct {
	sum complex128
	n   int
}

func New() *Scale { return &Scale{} }

// Write never makes a sum of -0: it starts from 0, and only -0 and -0 have that sum.
func (w *Scale) Write(s string) {
	if w == nil {
		return
	}
	power := Turn(1, w.n)
	i := 0
next:
	if i < len(s) {
		w.sum += complex(float64(s[i]), 0) * power
		power = timesI(power)
		i++
		goto next
	}
	w.n += len(s)
}

func (w *Scale) Sum() complex128 {
	if w == nil {
		return 0
	}
	return w.sum
}

func (w *Scale) Len() int {
	if w == nil {
		return 0
	}
	return w.n
}

package purse_test

import (
	"math"
	"math/rand"
	"slices"
	"testing"

	"leporello/purse"
)

const most = 1_000_000

// step is a Take, or a Give, of n, and what is to be answered.
type step struct {
	give bool
	n    int
	want bool
}

func take(n int, want bool) step { return step{false, n, want} }
func give(n int, want bool) step { return step{true, n, want} }

// plain is a purse by the chapter's words: all that ever was in use.
type plain struct {
	room int
	uses []int
}

func newPlain(room int) *plain { return &plain{room, []int{0}} }

func (m *plain) now() int  { return m.uses[len(m.uses)-1] }
func (m *plain) high() int { return slices.Max(m.uses) }
func (m *plain) left() int { return m.room - m.now() }

// next does a step and tells whether it may be.
func (m *plain) next(s step) bool {
	switch {
	case s.n < 0, !s.give && s.n > m.left(), s.give && s.n > m.now():
		return false
	case s.give:
		m.uses = append(m.uses, m.now()-s.n)
	default:
		m.uses = append(m.uses, m.now()+s.n)
	}
	return true
}

// do asks for a step.
func do(p *purse.Purse, s step) bool {
	if s.give {
		return p.Give(s.n)
	}
	return p.Take(s.n)
}

// tells holds what a purse tells, asked twice, against what is wanted.
func tells(t *testing.T, p *purse.Purse, now, high, left int) {
	t.Helper()
	for range 2 {
		if got, want := [3]int{p.Now(), p.High(), p.Left()}, [3]int{now, high, left}; got != want {
			t.Fatalf("Now, High, Left: %d, not %d", got, want)
		}
	}
}

// P1601
func TestNewHasRoomToTheNearerEnd(t *testing.T) {
	for _, c := range []struct{ room, want int }{
		{math.MinInt, 0}, {math.MinInt + 1, 0}, {-most - 1, 0}, {-most, 0}, {-2, 0}, {-1, 0},
		{0, 0}, {1, 1}, {2, 2}, {40, 40}, {1 << 16, 1 << 16}, {most - 1, most - 1}, {most, most},
		{most + 1, most}, {2 * most, most}, {1 << 31, most}, {1 << 32, most}, {math.MaxInt - 1, most}, {math.MaxInt, most},
	} {
		p := purse.New(c.room)
		tells(t, p, 0, 0, c.want)
		if p.Take(c.want + 1) {
			t.Errorf("New(%d): Take(%d)", c.room, c.want+1)
		}
		tells(t, p, 0, 0, c.want)
		if !p.Take(c.want) {
			t.Errorf("New(%d): not Take(%d)", c.room, c.want)
		}
		tells(t, p, c.want, c.want, 0)
	}
}

// P1601
func TestTakeAndGive(t *testing.T) {
	for _, c := range []struct {
		name            string
		room            int
		steps           []step
		now, high, left int
	}{
		{"the chapter's", 10, []step{take(8, true), take(3, false), give(5, true)}, 3, 8, 7},
		{"nothing is done", 10, nil, 0, 0, 10},
		{"all of it", 10, []step{take(10, true)}, 10, 10, 0},
		{"one more than all of it", 10, []step{take(11, false)}, 0, 0, 10},
		{"none is left", 10, []step{take(10, true), take(1, false)}, 10, 10, 0},
		{"0, of all that is left", 10, []step{take(0, true), take(10, true), take(0, true)}, 10, 10, 0},
		{"0, of no room", 0, []step{take(0, true), give(0, true), take(1, false), give(1, false)}, 0, 0, 0},
		{"what is in use is given", 10, []step{take(4, true), give(4, true)}, 0, 4, 10},
		{"more than what is in use", 10, []step{take(4, true), give(5, false)}, 4, 4, 6},
		{"what was given already", 10, []step{take(4, true), give(3, true), give(2, false), give(1, true), give(1, false)}, 0, 4, 10},
		{"nothing is in use", 10, []step{give(1, false), give(0, true)}, 0, 0, 10},
		{"what is given may be taken", 10, []step{take(10, true), give(3, true), take(4, false), take(3, true)}, 10, 10, 0},
		{"the most stays", 10, []step{take(7, true), give(7, true), take(6, true)}, 6, 7, 4},
		{"the most rises", 10, []step{take(7, true), give(7, true), take(8, true), give(1, true)}, 7, 8, 3},
		{"the most is of all together", 10, []step{take(4, true), take(4, true), give(8, true)}, 0, 8, 10},
		{"what was refused is no most", 10, []step{take(5, true), take(6, false), take(-1, false)}, 5, 5, 5},
		{"below 0", 10, []step{take(5, true), take(-1, false), give(-1, false), take(-5, false), give(-5, false), take(-6, false), give(-6, false)}, 5, 5, 5},
		{"too small to turn round", 10, []step{take(5, true), take(math.MinInt, false), give(math.MinInt, false), take(math.MinInt+1, false), give(math.MinInt+1, false)}, 5, 5, 5},
		{"so much that a sum wraps round", 10, []step{take(5, true), take(math.MaxInt, false), give(math.MaxInt, false), take(math.MaxInt-4, false), take(math.MaxInt-5, false)}, 5, 5, 5},
		{"so much that a few bits of it would fit", 10, []step{take(1<<32, false), take(1<<31, false), take(5, true), give(1<<32, false), give(1<<32+5, false)}, 5, 5, 5},
		{"the greatest room", most, []step{take(most-1, true), take(2, false), take(1, true), take(1, false), give(most, true), give(1, false)}, 0, most, most},
	} {
		t.Run(c.name, func(t *testing.T) {
			p := purse.New(c.room)
			for i, s := range c.steps {
				if got := do(p, s); got != s.want {
					t.Errorf("step %d, %+v: %t", i, s, got)
				}
			}
			tells(t, p, c.now, c.high, c.left)
		})
	}
}

// hold does steps, and holds all that is answered against the plain one.
func hold(t *testing.T, room int, steps []step) {
	t.Helper()
	p, m := purse.New(room), newPlain(room)
	for i, s := range steps {
		if got, want := do(p, s), m.next(s); got != want {
			t.Fatalf("room %d, step %d of %+v: %t", room, i, steps, got)
		}
		if got, want := [3]int{p.Now(), p.High(), p.Left()}, [3]int{m.now(), m.high(), m.left()}; got != want {
			t.Fatalf("room %d, behind step %d of %+v: %d, not %d", room, i, steps, got, want)
		}
	}
}

// P1601
func TestAllShortListsOfSteps(t *testing.T) {
	var each []step
	for n := -1; n <= 4; n++ {
		each = append(each, step{give: false, n: n}, step{give: true, n: n})
	}
	var walk func(room int, steps []step)
	walk = func(room int, steps []step) {
		if len(steps) == 4 {
			hold(t, room, steps)
			return
		}
		for _, s := range each {
			walk(room, append(steps, s))
		}
	}
	for room := range 5 {
		walk(room, nil)
	}
}

// P1601
func TestStepsByChance(t *testing.T) {
	rnd := rand.New(rand.NewSource(16))
	for range 300 {
		room := rnd.Intn(most + 1)
		var steps []step
		for range 60 {
			n := rnd.Intn(room/3+2) - 1
			switch rnd.Intn(20) {
			case 0:
				n = int(rnd.Uint64())
			case 1:
				n = room
			}
			steps = append(steps, step{give: rnd.Intn(3) == 0, n: n})
		}
		hold(t, room, steps)
	}
}

// P1601
func TestPursesAreApart(t *testing.T) {
	p, q := purse.New(10), purse.New(10)
	p.Take(7)
	tells(t, q, 0, 0, 10)
	q.Take(9)
	q.Give(9)
	tells(t, p, 7, 7, 3)
	tells(t, q, 0, 9, 10)
}

// P1601
func TestNilAndZeroPurses(t *testing.T) {
	for _, p := range []*purse.Purse{nil, {}} {
		for _, n := range []int{math.MinInt, -1, 0, 1, 20, most, math.MaxInt} {
			if p.Take(n) {
				t.Errorf("Take(%d)", n)
			}
			if p.Give(n) {
				t.Errorf("Give(%d)", n)
			}
			tells(t, p, 0, 0, 0)
		}
	}
}

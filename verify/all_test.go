package verify_test

import (
	"math"
	"runtime"
	"strconv"
	"sync"
	"testing"
	"time"

	"keystone/api"
	"keystone/hier"
	"keystone/verify"
)

// P1001: ErrMember: a class that is not there, a number that is no method's, a method that has no code.
func TestNoSuchMethod(t *testing.T) {
	w := alone(t, "static f ()V", 0, 0, "return")
	for _, x := range []struct {
		class  string
		method int
	}{
		{"", 0}, {"None", 0}, {"m", 0}, {"M ", 0}, {"LM;", 0}, {"\xff", 0},
		{"M", 1}, {"M", -1}, {"M", math.MinInt}, {"M", math.MaxInt}, {"M", 1 << 32}, {"A", 1},
		{"Object", 0}, {"Throwable", 0}, {"HeapError", 0}, {"Object", 1}, {"Object", -1}, // no code
		{"I", 0}, {"I", 1}, {"J", 0}, {"E", 0}, {"E", 3}, // abstract ones
	} {
		if l, e := verify.Method(w, x.class, x.method); e != api.ErrMember || len(l) > 0 {
			t.Errorf("%q %d: %v, %v", x.class, x.method, l, e)
		}
	}
	// Those beside them are there, by their own numbers.
	for _, x := range []struct {
		class  string
		method int
		want   string
	}{
		{"M", 0, "top |  | \n"},
		{"E", 2, "top |  | \n"},
		{"E", 1, "E! | E! | \nE! | E! | E!\nLE; | LE; | \n"},
		{"F", 0, "top | LF; | \n"},
		{"F", 1, "F! | F! | \nF! | F! | F!\nLF; | LF; | \n"},
	} {
		if l, e := verify.Method(w, x.class, x.method); e != api.OK || texts(l) != x.want {
			t.Errorf("%q %d: %v, %v", x.class, x.method, texts(l), e)
		}
	}
}

// told is what All or Crew tells.
type told struct {
	class  string
	method int
	err    api.Errno
}

func all(w *hier.World) told {
	class, n, e := verify.All(w)
	return told{class, n, e}
}

func crew(w *hier.World, n int) told {
	class, method, e := verify.Crew(w, n)
	return told{class, method, e}
}

// allTell holds All and each Crew against what is wanted.
func allTell(t *testing.T, w *hier.World, want told) {
	t.Helper()
	if got := all(w); got != want {
		t.Errorf("All: %v, wanted %v", got, want)
	}
	for n := 1; n <= 8; n++ {
		if got := crew(w, n); got != want {
			t.Errorf("Crew %d: %v, wanted %v", n, got, want)
		}
	}
}

// methods are some by letters: g is taken, b has no typing, s has a handler of what is not thrown, o has no code. Their names begin alike.
func (k *book) methods(name, letters string) []api.Method {
	var l []api.Method
	for n, letter := range letters {
		name := name + strconv.Itoa(n)
		heading := "static " + name + " ()V"
		switch letter {
		case 'g':
			l = append(l, k.method(heading, 1, 0, "nil\npop\nreturn"))
		case 'b':
			l = append(l, k.method(heading, 1, 0, "pop\nreturn"))
		case 's':
			l = append(l, k.method(heading, 1, 0, "a: pop\nb: return\ncatch a b a Object"))
		case 'o':
			l = append(l, api.Method{Flags: api.FAbstract, Name: name, Sig: sig("()V")})
		}
	}
	return l
}

// worldOf has classes, each of a module of its own if apart is true, with methods by letters.
func worldOf(t *testing.T, apart bool, l ...[2]string) *hier.World {
	t.Helper()
	var modules []api.Module
	k := begin()
	for n, x := range l {
		k.class(x[0], k.methods("f"+strconv.Itoa(n)+"_", x[1])...)
		if apart {
			modules = append(modules, k.module())
			k = begin()
		}
	}
	return linked(t, append(modules, k.module())...)
}

// P1002: the first method that is refused, class by class as they came, method by method; those without code are not asked, but have numbers.
func TestAllInOrder(t *testing.T) {
	for _, x := range []struct {
		classes [][2]string
		want    told
	}{
		{nil, told{}},
		{[][2]string{{"A Object", ""}}, told{}},
		{[][2]string{{"A Object", "g"}}, told{}},
		{[][2]string{{"A Object", "gggg"}, {"B Object", "ggg"}, {"abstract C A", "ogo"}}, told{}},
		{[][2]string{{"abstract A Object", "oooo"}, {"face B Object", "o"}}, told{}},
		{[][2]string{{"A Object", "b"}}, told{"A", 0, api.ErrTyping}},
		{[][2]string{{"A Object", "s"}}, told{"A", 0, api.ErrSuper}},
		{[][2]string{{"A Object", "gggb"}}, told{"A", 3, api.ErrTyping}},
		{[][2]string{{"A Object", "gsb"}}, told{"A", 1, api.ErrSuper}},
		{[][2]string{{"A Object", "gbs"}}, told{"A", 1, api.ErrTyping}},
		{[][2]string{{"A Object", "bbb"}, {"B Object", "bbb"}}, told{"A", 0, api.ErrTyping}},
		{[][2]string{{"Z Object", "ggs"}, {"A Object", "b"}}, told{"Z", 2, api.ErrSuper}}, // as they came, not by name
		{[][2]string{{"B A", "gb"}, {"A Object", "b"}}, told{"B", 1, api.ErrTyping}},      // nor from above
		{[][2]string{{"A Object", "ggggg"}, {"B Object", ""}, {"C Object", "gs"}, {"D Object", "b"}}, told{"C", 1, api.ErrSuper}},
		{[][2]string{{"face A Object", "oo"}, {"abstract C Object", "ooobos"}}, told{"C", 3, api.ErrTyping}},
	} {
		for _, apart := range []bool{false, true} {
			allTell(t, worldOf(t, apart, x.classes...), x.want)
		}
	}
}

// P1002: as modules came, so All tells; Link told it no other way.
func TestAllAsModulesCame(t *testing.T) {
	k, j := begin(), begin()
	k.class("A Object", k.methods("f", "gb")...)
	j.class("B A", j.methods("g", "s")...)
	allTell(t, linked(t, k.module(), j.module()), told{"A", 1, api.ErrTyping})
	allTell(t, linked(t, j.module(), k.module()), told{"B", 0, api.ErrSuper})
}

// P1002: ErrLoose of a world that is not linked, whatever is in it; ErrArg of Crew comes ahead.
func TestLooseWorlds(t *testing.T) {
	k := begin().family()
	k.class("M Object", k.methods("f", "gbs")...)
	other := begin()
	other.class("A None")
	fails := loose(t, other.module())
	if _, e := fails.Link(); e == api.OK {
		t.Fatal("linked")
	}
	for _, w := range []*hier.World{hier.New(), loose(t, k.module()), fails} {
		allTell(t, w, told{err: api.ErrLoose})
		for _, n := range []int{0, 9} {
			if got := crew(w, n); got != (told{err: api.ErrArg}) {
				t.Errorf("Crew %d: %v", n, got)
			}
		}
	}
	// The same world, once it is linked.
	w := loose(t, k.module())
	allTell(t, w, told{err: api.ErrLoose})
	w.Link()
	allTell(t, w, told{"M", 1, api.ErrTyping})
}

// P1002: Crew takes 1 to 8; ErrArg is told whether there is something to find or not.
func TestHowManyGoroutines(t *testing.T) {
	for _, w := range []*hier.World{worldOf(t, false), worldOf(t, false, [2]string{"A Object", "ggg"}), worldOf(t, false, [2]string{"A Object", "gbs"})} {
		for _, n := range []int{math.MinInt, -8, -1, 0, 9, 10, 64, 1 << 32, math.MaxInt} {
			if got := crew(w, n); got != (told{err: api.ErrArg}) {
				t.Errorf("Crew %d: %v", n, got)
			}
		}
		want := all(w)
		for _, n := range []int{1, 2, 3, 4, 5, 6, 7, 8} {
			if got := crew(w, n); got != want {
				t.Errorf("Crew %d: %v, wanted %v", n, got, want)
			}
		}
	}
}

// P1002: whichever one method is refused of many, every crew finds it; of two the first one, however much there is to do for it.
func TestCrewBesideAll(t *testing.T) {
	const many = 19
	for n := range many {
		k := begin().family()
		letters := []byte("ggggggggggggggggggg")
		letters[n] = "bs"[n%2]
		l := k.methods("f", string(letters))
		if n+1 < many {
			l[n+1] = k.methods("second", "sb")[n%2]
		}
		// The first one that is refused takes its time: those behind it are found sooner.
		if n%3 == 0 {
			l[n] = slow(k, "slow", true)
		}
		k.class("M Object", l...)
		w := linked(t, k.module())
		want := told{"M", n, api.ErrTyping}
		if n%2 == 1 && n%3 != 0 {
			want.err = api.ErrSuper
		}
		allTell(t, w, want)
	}
}

// slow is a method that is gone through many times, till nothing rises any more; or till it can't be done.
func slow(k *book, name string, refused bool) api.Method {
	s := ""
	for i := range 62 {
		s += "load " + strconv.Itoa(i+1) + "\nstore " + strconv.Itoa(i) + "\n"
	}
	end := "load 0\npop\n"
	if refused {
		end = "load 0\nget A x I\npop\n"
	}
	init := ""
	for i := range 62 {
		init += "nil\nstore " + strconv.Itoa(i) + "\n"
	}
	return k.method("static "+name+" ()V", 1, 64, init+"number 1\nstore 62\nagain: "+end+s+"jump again")
}

// P1002, P3: calls beside one another in one world answer as they do one by one, and all goroutines have come to an end.
func TestCallsBesideOneAnother(t *testing.T) {
	k := begin().family()
	k.class("M Object", append(k.methods("f", "gggggggggg"), slow(k, "u", true), slow(k, "v", false))...)
	w := linked(t, k.module())
	want := told{"M", 10, api.ErrTyping}
	before := runtime.NumGoroutine()
	var wg sync.WaitGroup
	for n := range 16 {
		wg.Add(1)
		go func() {
			defer wg.Done()
			if got := crew(w, n%8+1); got != want {
				t.Errorf("Crew: %v", got)
			}
			if got := all(w); got != want {
				t.Errorf("All: %v", got)
			}
			if l, e := verify.Method(w, "M", 11); e != api.OK || len(l) == 0 {
				t.Errorf("Method: %v", e)
			}
		}()
	}
	wg.Wait()
	for range 1000 {
		if runtime.NumGoroutine() <= before {
			return
		}
		time.Sleep(time.Millisecond)
	}
	t.Errorf("%d goroutines, there were %d", runtime.NumGoroutine(), before)
}

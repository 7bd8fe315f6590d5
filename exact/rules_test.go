package exact_test

import (
	"slices"
	"testing"

	"waveplate/api"
	"waveplate/exact"
)

// outcome is what a call returned: all its numbers, its other results as a text or a number, and its error.
type outcome struct {
	nats  []api.Nat
	text  string
	count uint64
	e     api.Errno
}

func (o outcome) isZero() bool {
	for _, a := range o.nats {
		if len(a) > 0 {
			return false
		}
	}
	return o.text == "" && o.count == 0
}

func fracOutcome(f api.Frac, e api.Errno) outcome {
	return outcome{nats: []api.Nat{f.Num, f.Den}, e: e}
}

func natOutcome(a api.Nat, e api.Errno) outcome { return outcome{nats: []api.Nat{a}, e: e} }

// natCalls are the functions with numbers as arguments, by name.
func natCalls() map[string]func(a, b api.Nat) outcome {
	return map[string]func(a, b api.Nat) outcome{
		"Add":     func(a, b api.Nat) outcome { return natOutcome(exact.Add(a, b)) },
		"Sub":     func(a, b api.Nat) outcome { return natOutcome(exact.Sub(a, b)) },
		"Mul":     func(a, b api.Nat) outcome { return natOutcome(exact.Mul(a, b)) },
		"Gcd":     func(a, b api.Nat) outcome { return natOutcome(exact.Gcd(a, b)) },
		"Compare": func(a, b api.Nat) outcome { c, e := exact.Compare(a, b); return outcome{count: uint64(c + 1), e: e} },
		"Divide": func(a, b api.Nat) outcome {
			q, r, e := exact.Divide(a, b)
			return outcome{nats: []api.Nat{q, r}, e: e}
		},
	}
}

// oneNatCalls are those with one number as an argument.
func oneNatCalls() map[string]func(a api.Nat) outcome {
	return map[string]func(a api.Nat) outcome{
		"Check": func(a api.Nat) outcome { return outcome{e: exact.Check(a)} },
		"Norm":  func(a api.Nat) outcome { return natOutcome(exact.Norm(a)) },
		"Small": func(a api.Nat) outcome { n, e := exact.Small(a); return outcome{count: n, e: e} },
		"Bits":  func(a api.Nat) outcome { n, e := exact.Bits(a); return outcome{count: uint64(n), e: e} },
		"Text":  func(a api.Nat) outcome { s, e := exact.Text(a); return outcome{text: s, e: e} },
	}
}

// fracCalls are the functions with two fractions as arguments.
func fracCalls() map[string]func(f, g api.Frac) outcome {
	return map[string]func(f, g api.Frac) outcome{
		"FracAdd": func(f, g api.Frac) outcome { return fracOutcome(exact.FracAdd(f, g)) },
		"FracSub": func(f, g api.Frac) outcome { return fracOutcome(exact.FracSub(f, g)) },
		"FracMul": func(f, g api.Frac) outcome { return fracOutcome(exact.FracMul(f, g)) },
		"FracCompare": func(f, g api.Frac) outcome {
			c, e := exact.FracCompare(f, g)
			return outcome{count: uint64(c + 1), e: e}
		},
	}
}

// oneFracCalls are those with one fraction as an argument.
func oneFracCalls() map[string]func(f api.Frac) outcome {
	return map[string]func(f api.Frac) outcome{
		"CheckFrac": func(f api.Frac) outcome { return outcome{e: exact.CheckFrac(f)} },
		"Reduce":    func(f api.Frac) outcome { return fracOutcome(exact.Reduce(f)) },
		"FracText":  func(f api.Frac) outcome { s, e := exact.FracText(f); return outcome{text: s, e: e} },
		"Bound":     func(f api.Frac) outcome { n, e := exact.Bound(4, 2, 0, f); return outcome{count: uint64(n), e: e} },
	}
}

// wantError fails unless an outcome is this error, with zero values. (Compare gives its 0 as the count 1, see the calls.)
func wantError(t *testing.T, what string, o outcome, want api.Errno) {
	t.Helper()
	if what == "Compare" || what == "FracCompare" {
		o.count--
	}
	if o.e != want || !o.isZero() {
		t.Errorf("%s: %v, want %d and zero values", what, o, want)
	}
}

// P1, R1 and R2: ErrLong comes first, whichever number has it.
func TestNumbersThatAreTooLong(t *testing.T) {
	for _, long := range []api.Nat{make(api.Nat, 65), full(65), append(api.Nat{1}, make(api.Nat, 64)...), make(api.Nat, 100000)} {
		for name, call := range oneNatCalls() {
			wantError(t, name, call(long), api.ErrLong)
		}
		for name, call := range natCalls() {
			for _, other := range []api.Nat{nil, {0}, {5}, full(64), long} {
				wantError(t, name, call(long, other), api.ErrLong)
				wantError(t, name, call(other, long), api.ErrLong)
			}
		}
	}
	for name, call := range oneNatCalls() {
		if o := call(full(64)); o.e == api.ErrLong {
			t.Errorf("%s of 64 limbs: %d", name, o.e)
		}
	}
	for name, call := range natCalls() {
		if o := call(full(64), full(64)); o.e == api.ErrLong {
			t.Errorf("%s of 64 limbs: %d", name, o.e)
		}
	}
}

// P1, R1 and R2: ErrLong comes before ErrZero, whichever fraction has it, and both before all others.
func TestFractionsThatAreNotValid(t *testing.T) {
	long := make(api.Nat, 65)
	tooLong := []api.Frac{{Num: long, Den: api.Nat{1}}, {Num: api.Nat{1}, Den: long}, {Num: full(65), Den: nil}, {Num: long, Den: long}}
	zero := []api.Frac{{}, {Num: api.Nat{1}}, {Num: full(64), Den: make(api.Nat, 64)}, frac(0, 0)}
	fine := []api.Frac{frac(0, 1), frac(1, 2), {Num: full(64), Den: full(64)}}
	for _, f := range tooLong {
		for name, call := range oneFracCalls() {
			wantError(t, name, call(f), api.ErrLong)
		}
		for name, call := range fracCalls() {
			for _, g := range slices.Concat(tooLong, zero, fine) {
				wantError(t, name, call(f, g), api.ErrLong)
				wantError(t, name, call(g, f), api.ErrLong)
			}
		}
	}
	for _, f := range zero {
		for name, call := range oneFracCalls() {
			wantError(t, name, call(f), api.ErrZero)
		}
		for name, call := range fracCalls() {
			for _, g := range slices.Concat(zero, fine) {
				wantError(t, name, call(f, g), api.ErrZero)
				wantError(t, name, call(g, f), api.ErrZero)
			}
		}
	}
}

// P1 and R2: an error that comes after the checks of the arguments leaves zero values too.
func TestOtherErrorsLeaveZeroValues(t *testing.T) {
	nats, fracs := natCalls(), fracCalls()
	wantError(t, "Add", nats["Add"](full(64), full(64)), api.ErrOver)
	wantError(t, "Mul", nats["Mul"](full(64), full(64)), api.ErrOver)
	wantError(t, "Sub", nats["Sub"](full(63), full(64)), api.ErrRange)
	wantError(t, "Divide", nats["Divide"](full(64), nil), api.ErrZero)
	wantError(t, "Small", oneNatCalls()["Small"](full(64)), api.ErrOver)
	tiny := api.Frac{Num: api.Nat{1}, Den: full(64)}
	huge := api.Frac{Num: full(64), Den: api.Nat{1}}
	wantError(t, "FracAdd", fracs["FracAdd"](tiny, frac(1, 2)), api.ErrOver)
	wantError(t, "FracAdd", fracs["FracAdd"](huge, frac(1, 1)), api.ErrOver)
	wantError(t, "FracSub", fracs["FracSub"](frac(1, 2), tiny), api.ErrOver)
	wantError(t, "FracSub", fracs["FracSub"](tiny, frac(1, 2)), api.ErrRange)
	wantError(t, "FracMul", fracs["FracMul"](huge, frac(3, 1)), api.ErrOver)
	wantError(t, "FracMul", fracs["FracMul"](tiny, tiny), api.ErrOver)
	wantError(t, "Bound", oneFracCalls()["Bound"](frac(1, 1)), api.ErrArg)
}

// spare returns the same number with limbs beyond its end, which nothing may read or write.
func spare(a api.Nat) api.Nat {
	b := append(slices.Clone(a), 77, 88, 99)
	return b[:len(a)]
}

// wreck changes all limbs of numbers, up to their capacities.
func wreck(l ...api.Nat) {
	for _, a := range l {
		a = a[:cap(a)]
		for i := range a {
			a[i] ^= 0x55555555
		}
	}
}

func sameOutcome(o, p outcome) bool {
	return slices.EqualFunc(o.nats, p.nats, slices.Equal[api.Nat]) && o.text == p.text && o.count == p.count && o.e == p.e
}

func copyOutcome(o outcome) outcome {
	p := o
	p.nats = nil
	for _, a := range o.nats {
		p.nats = append(p.nats, slices.Clone(a))
	}
	return p
}

// checkMemory fails if a call with these arguments depends on what is beyond their ends, changes them, or shares memory with them or between its results. (R5, R10)
func checkMemory(t *testing.T, name string, call func(l []api.Nat) outcome, plain ...api.Nat) {
	t.Helper()
	want := copyOutcome(call(plain))
	args := make([]api.Nat, len(plain))
	for i := range plain {
		args[i] = spare(plain[i])
	}
	got := call(args)
	if !sameOutcome(got, want) {
		t.Errorf("%s of %v: %v, and then %v", name, plain, want, got)
	}
	for i := range args {
		if whole := args[i][:len(plain[i])+3]; !slices.Equal(whole, append(slices.Clone(plain[i]), 77, 88, 99)) {
			t.Errorf("%s changed an argument: %v to %v", name, plain[i], whole)
		}
	}
	wreck(args...)
	if !sameOutcome(got, want) {
		t.Errorf("%s of %v: a result shares memory with an argument", name, plain)
	}
	for i := range got.nats {
		before := copyOutcome(got)
		wreck(got.nats[i])
		before.nats[i] = got.nats[i]
		if !sameOutcome(got, before) {
			t.Errorf("%s of %v: two results share memory", name, plain)
		}
	}
	if again := call(plain); !sameOutcome(again, want) {
		t.Errorf("%s of %v: %v, and again %v", name, plain, want, again)
	}
}

// R5 and R10.
func TestMemory(t *testing.T) {
	nats := []api.Nat{nil, {0}, {1}, {5, 0, 0}, {7, 3}, {1, 2, 3}, full(30), full(64)}
	for _, a := range nats {
		for name, call := range oneNatCalls() {
			checkMemory(t, name, func(l []api.Nat) outcome { return call(l[0]) }, a)
		}
		for _, b := range nats {
			for name, call := range natCalls() {
				checkMemory(t, name, func(l []api.Nat) outcome { return call(l[0], l[1]) }, a, b)
			}
			for name, call := range oneFracCalls() {
				checkMemory(t, name, func(l []api.Nat) outcome { return call(api.Frac{Num: l[0], Den: l[1]}) }, a, b)
			}
		}
	}
	fracs := []api.Frac{frac(0, 1), frac(1, 1), frac(6, 8), {Num: api.Nat{0, 0}, Den: api.Nat{1, 0}}, {Num: full(20), Den: full(30)}}
	for _, f := range fracs {
		for _, g := range fracs {
			for name, call := range fracCalls() {
				checkMemory(t, name, func(l []api.Nat) outcome {
					return call(api.Frac{Num: l[0], Den: l[1]}, api.Frac{Num: l[2], Den: l[3]})
				}, f.Num, f.Den, g.Num, g.Den)
			}
		}
	}
}

// R5: one list as both arguments, or as Num and Den.
func TestTheSameArgumentTwice(t *testing.T) {
	a := api.Nat{6, 7}
	for name, call := range natCalls() {
		if o, p := call(a, a), call(a, slices.Clone(a)); !sameOutcome(o, p) {
			t.Errorf("%s: %v, want %v", name, o, p)
		}
	}
	f := api.Frac{Num: a, Den: a}
	for name, call := range fracCalls() {
		if o, p := call(f, f), call(frac(1, 1), frac(1, 1)); !sameOutcome(o, p) {
			t.Errorf("%s: %v, want %v", name, o, p)
		}
	}
	if !slices.Equal(a, api.Nat{6, 7}) {
		t.Errorf("an argument was changed: %v", a)
	}
}

// R5: results that depend on no list are new memory at each call.
func TestResultsAreNewMemory(t *testing.T) {
	calls := map[string]func() outcome{
		"Of":        func() outcome { return natOutcome(exact.Of(5), api.OK) },
		"Parse":     func() outcome { return natOutcome(exact.Parse("5")) },
		"FracParse": func() outcome { return fracOutcome(exact.FracParse("5/7")) },
		"Binomial":  func() outcome { return natOutcome(exact.Binomial(9, 0)) },
		"Ball":      func() outcome { return natOutcome(exact.Ball(9, 0)) },
		"Tail":      func() outcome { return fracOutcome(exact.Tail(9, 0, 0, 0)) },
	}
	for name, call := range calls {
		first := call()
		want := copyOutcome(first)
		for i, a := range first.nats {
			wreck(a)
			for j := i + 1; j < len(first.nats); j++ {
				if !slices.Equal(first.nats[j], want.nats[j]) {
					t.Errorf("%s: two results share memory", name)
				}
			}
		}
		if again := call(); !sameOutcome(again, want) {
			t.Errorf("%s: %v, and then %v", name, want, again)
		}
	}
}

// R3: a nil list is an empty one, and both are 0.
func TestNilIsEmpty(t *testing.T) {
	for name, call := range natCalls() {
		for _, other := range []api.Nat{nil, {}, {9}, full(64)} {
			if o, p := call(nil, other), call(api.Nat{}, other); !sameOutcome(o, p) {
				t.Errorf("%s: %v and %v", name, o, p)
			}
			if o, p := call(other, nil), call(other, api.Nat{0, 0}); !sameOutcome(o, p) {
				t.Errorf("%s: %v and %v", name, o, p)
			}
		}
	}
	for name, call := range oneNatCalls() {
		if o, p := call(nil), call(api.Nat{}); !sameOutcome(o, p) {
			t.Errorf("%s: %v and %v", name, o, p)
		}
	}
	for name, call := range oneFracCalls() {
		f, g := api.Frac{Num: nil, Den: api.Nat{7}}, api.Frac{Num: api.Nat{}, Den: api.Nat{7}}
		if o, p := call(f), call(g); !sameOutcome(o, p) {
			t.Errorf("%s: %v and %v", name, o, p)
		}
	}
}

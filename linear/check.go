package linear

import "scarab/api"

// look is the thing of a kind of which a history is right, or that it is not.
func look(kind int, h []api.Call) (thing, api.Errno) {
	k, ok := thingOf(kind)
	if !ok || len(h) > MaxCalls {
		return thing{}, api.ErrHist
	}
	for i, x := range h {
		if _, has := k.deed(x.Do); !has || !right(x) {
			return thing{}, api.ErrHist
		}
		for _, y := range h[:i] {
			if sameMoment(x, y) || x.Go == y.Go && !ended(x, y) && !ended(y, x) {
				return thing{}, api.ErrHist
			}
		}
	}
	return k, api.OK
}

// pending tells whether an operation did not end.
func pending(x api.Call) bool { return x.End == -1 }

// right tells whether an operation may be as it is, but for its Do.
func right(x api.Call) bool {
	return x.Go >= 0 && x.Go < api.MaxGos && rightTime(x) && rightValues(x)
}

// rightTime tells whether an operation may begin and end when it does.
func rightTime(x api.Call) bool {
	if x.Begin < 0 || x.Begin > MaxMoment {
		return false
	}
	return pending(x) || x.End > x.Begin && x.End <= MaxMoment
}

// rightValues tells whether an operation has only what its Do has.
func rightValues(x api.Call) bool {
	if x.In != 0 && !takesIn(x.Do) {
		return false
	}
	if x.Empty && (x.Do != api.DoTake || pending(x)) {
		return false
	}
	return x.Out == 0 || tellsOut(x.Do) && !x.Empty && !pending(x)
}

// takesIn tells whether an operation of that number is given a value.
func takesIn(do int) bool { return do == api.DoWrite || do == api.DoAdd || do == api.DoPut }

// tellsOut tells whether an operation of that number tells a value.
func tellsOut(do int) bool { return do == api.DoRead || do == api.DoTake }

// sameMoment tells whether two operations, each right, have a moment in common.
func sameMoment(x, y api.Call) bool {
	// the -1 of a pending one is no moment
	return x.Begin == y.Begin || x.Begin == y.End || x.End == y.Begin || x.End == y.End && !pending(x)
}

// ended tells whether an operation ended before another one began.
func ended(x, y api.Call) bool { return !pending(x) && x.End < y.Begin }

// turned tells whether an operation is of the same goroutine as another one, and began before it.
func turned(x, y api.Call) bool { return x.Go == y.Go && x.Begin < y.Begin }

package kern

import (
	"strings"

	"scullion/api"
	"scullion/store"
)

// walk is the resolution of a path, as far as it has come.
type walk struct {
	store  *store.Store
	place  string // the current place
	rest   string // the components that are still to be processed, without a `/` before them
	follow bool   // whether a link is followed even as the last component
	slash  bool   // whether a trailing slash was seen
	links  int    // the number of links that were followed
}

// find returns the place of a path and the entry there, or raises an error.
func (p *Proc) find(path string, follow bool) (string, api.Entry) {
	check(path != "", api.ErrNone)
	check(len(path) <= api.MaxPath, api.ErrLong)
	w := walk{store: p.store, place: p.cwd, follow: follow, slash: endsWithSlash(path)}
	w.setOut(path)
	for w.rest != "" {
		w.step()
	}
	e := w.store.At(w.place)
	check(!w.slash || e.Kind == api.None || e.Kind == api.Dir, api.ErrNotDir)
	return w.place, e
}

// setOut makes the components of a text the next ones, from the root on if it begins with `/`.
func (w *walk) setOut(text string) {
	if strings.HasPrefix(text, "/") {
		w.place = root
	}
	w.rest = strings.TrimLeft(text, "/")
}

// step processes the next component.
func (w *walk) step() {
	here := w.store.At(w.place)
	check(here.Kind != api.None, api.ErrNone)
	check(here.Kind == api.Dir, api.ErrNotDir)
	check(allows(here, searching), api.ErrMode)
	name := w.cut()
	check(len(name) <= api.MaxName, api.ErrLong)
	switch name {
	case ".":
	case "..":
		w.place = parentOf(w.place)
	default:
		w.enter(w.place + "/" + name)
	}
}

// cut takes the next component off the rest.
func (w *walk) cut() string {
	name, rest, _ := strings.Cut(w.rest, "/")
	w.rest = strings.TrimLeft(rest, "/")
	return name
}

// isLast tells whether the component that was cut off is the last one.
func (w *walk) isLast() bool { return w.rest == "" }

// enter goes to a child of the current place, or to where the link there leads.
func (w *walk) enter(child string) {
	e := w.store.At(child)
	if e.Kind == api.Link && (!w.isLast() || w.follow || w.slash) {
		w.followLink(e.Data)
		return
	}
	// If there is nothing, and this is not the last component, the next step raises the error.
	w.place = child
}

// followLink makes the components of the data of a link the next ones.
func (w *walk) followLink(data string) {
	w.links++
	check(w.links <= api.MaxLinks, api.ErrLoop)
	check(data != "", api.ErrNone)
	if w.isLast() && endsWithSlash(data) {
		w.slash = true
	}
	w.setOut(data + "/" + w.rest)
}

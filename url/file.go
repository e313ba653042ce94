package url

import (
	"bastion/api"
	"bastion/host"
	"bastion/parts"
)

// file reads a file URL, with a base that is one, if there is one.
func (r *reading) file(s string) api.Errno {
	r.Host = api.Host{Kind: api.HostEmpty}
	slash := r.kind.Slashed(s)
	if slash && r.kind.Slashed(s[1:]) {
		return r.fileHost(s[2:])
	}
	if r.has {
		r.stay()
	}
	switch {
	case slash:
		r.Path = r.kind.Path(r.drive(s[1:]), s[1:])
	case r.has:
		r.goOn(s)
	default:
		r.Path = r.kind.Path(nil, s)
	}
	return api.OK
}

// drive is the base's drive, where a path from the root stays on it.
func (r *reading) drive(s string) []string {
	if !r.has || parts.Drives(s) || len(r.base.Path) == 0 || !parts.Normal(r.base.Path[0]) {
		return nil
	}
	return []string{r.base.Path[0]}
}

// fileHost reads a file URL's host, unless it is a drive.
func (r *reading) fileHost(s string) api.Errno {
	name, rest := r.kind.Cut(s)
	if parts.Drive(name) {
		r.Path = r.kind.Path(nil, s)
		return api.OK
	}
	if name != "" {
		h, why := host.Parse(r.table, name, false)
		if why != api.OK {
			return why
		}
		if !parts.Local(h) {
			r.Host = h
		}
	}
	r.Path = r.kind.Start(rest)
	return api.OK
}

package diff

import "fustian/api"

const (
	maxSteps = 200
	maxCount = 200
)

// Patch returns the lines that the steps l make of a; the lines that are taken are those of news.
func Patch(a []string, l []api.Step, news []string) ([]string, api.Errno) {
	if len(l) > maxSteps || tooMany(a, news) {
		return nil, api.ErrSize
	}
	p := patch{old: a, news: news}
	for _, s := range l {
		if code := p.apply(s); code != api.OK {
			return nil, code
		}
	}
	if len(p.old)+len(p.news) > 0 {
		return nil, api.ErrForm
	}
	return p.made, api.OK
}

// patch has the lines that remain of both lists, and those that are made so far.
type patch struct {
	old, news, made []string
}

func (p *patch) apply(s api.Step) api.Errno {
	rest := &p.old
	switch s.Kind {
	case api.Keep, api.Drop:
	case api.Take:
		rest = &p.news
	default:
		return api.ErrKind
	}
	if s.Count < 1 || s.Count > maxCount {
		return api.ErrRange
	}
	if s.Count > len(*rest) {
		return api.ErrShort
	}
	if s.Kind != api.Drop {
		p.made = append(p.made, (*rest)[:s.Count]...)
	}
	*rest = (*rest)[s.Count:]
	return api.OK
}

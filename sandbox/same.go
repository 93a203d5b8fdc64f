package sandbox

import (
	"slices"

	"paddock/api"
)

// Same tells whether two outcomes are one.
func Same(a, b api.Outcome) bool {
	return a.Why == b.Why && a.Flaw == b.Flaw && a.Out == b.Out &&
		a.Code == b.Code && a.Stop == b.Stop && a.Error == b.Error && a.Message == b.Message &&
		a.Steps == b.Steps && a.Cost == b.Cost && a.Peak == b.Peak &&
		slices.EqualFunc(a.Log, b.Log, sameEntry) && slices.EqualFunc(a.Trace, b.Trace, sameCall) && sameFile(a.Tree, b.Tree)
}

func sameEntry(a, b api.Entry) bool {
	return a.Deny == b.Deny && a.Text == b.Text && sameCall(a.Call, b.Call)
}

func sameCall(a, b api.Call) bool {
	return a.Kind == b.Kind && a.Why == b.Why && slices.Equal(a.Path, b.Path) && slices.Equal(a.To, b.To)
}

// sameFile tells whether two files are one, with all in them.
func sameFile(a, b api.File) bool {
	return a.Name == b.Name && a.Kind == b.Kind && a.Data == b.Data && slices.EqualFunc(a.Files, b.Files, sameFile)
}

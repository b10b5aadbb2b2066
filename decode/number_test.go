package decode

import (
	"errors"
	"testing"

	"lightship/api"
)

// Of a panic that was made with no error of the chapters no text is told, either.
func TestNumber(t *testing.T) {
	for err := api.ErrArg; err <= api.ErrBusy; err++ {
		if got := number(err); got != err {
			t.Errorf("number(%d): %d", err, got)
		}
	}
	for _, why := range []any{"a text", 15, errors.New("an error"), struct{}{}} {
		if got := number(why); got == api.OK {
			t.Errorf("number(%v): OK, want an error", why)
		}
	}
}

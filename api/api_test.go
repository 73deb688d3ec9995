package api_test

import (
	"testing"

	"scour/api"
)

func TestErrorsHaveTheDocumentsNumbers(t *testing.T) {
	inOrder := []api.Errno{
		api.OK, api.ErrArg, api.ErrMany, api.ErrEmpty, api.ErrLong, api.ErrTotal,
		api.ErrShort, api.ErrMagic, api.ErrVersion, api.ErrSum, api.ErrForm,
	}
	for number, e := range inOrder {
		if int(e) != number {
			t.Errorf("error %d has the number %d", number, e)
		}
	}
}
